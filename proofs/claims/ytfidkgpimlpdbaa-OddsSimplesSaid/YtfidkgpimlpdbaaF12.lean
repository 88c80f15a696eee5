/- Parts of a proof: OV OW OX OY OZ. -/
import Derived.Test.YtfidkgpimlpdbaaF11
import Derived.Shelf.SlMaps.Clone
import Derived.Laws.Externs

/- odds: Chances. -/
namespace Go.Proofs.Ytfidkgpimlpdbaa
open Go.RowKit Go.Shelf

theorem part_r0 (a b : Int) (w : World) : (part 2 #[.int .i64 a, .int .i64 b] 0).run Try.prog w = .ok (.int .i64 a) w := by kernel_rfl
theorem part_r1 (a b : Int) (w : World) : (part 2 #[.int .i64 a, .int .i64 b] 1).run Try.prog w = .ok (.int .i64 b) w := by kernel_rfl
theorem eqI64 (d : Nat) (x y : Int) (w : World) : (Op.equalIn (d + 1) 2 (.int .i64 x) (.int .i64 y)).run Try.prog w = .ok (decide (x = y)) w := by
  rw [run_equalIn_int w d 2 .i64 .i64 x y Try.underlying2]
  rfl
theorem eq_ratio (d : Nat) (a b x y : Int) (w : World) : (Op.equalIn (d + 2) 23 (.agg #[.int .i64 a, .int .i64 b]) (.agg #[.int .i64 x, .int .i64 y])).run Try.prog w = .ok (decide (a = x) && decide (b = y)) w := by
  rw [run_equalIn_struct w (d + 1) 23 _ _ (by kernel_rfl) (by kernel_rfl)]
  have hfs : (Try.prog.fieldsOf 23).toList = [((Try.prog.fieldsOf 23)[0]?).getD default, ((Try.prog.fieldsOf 23)[1]?).getD default] := by kernel_rfl
  have n1 : (((Try.prog.fieldsOf 23)[0]?).getD default).name = "Num" := by kernel_rfl
  have t1 : (((Try.prog.fieldsOf 23)[0]?).getD default).type = 2 := by kernel_rfl
  have o1 : (((Try.prog.fieldsOf 23)[0]?).getD default).offset = 0 := by kernel_rfl
  have n2 : (((Try.prog.fieldsOf 23)[1]?).getD default).name = "Den" := by kernel_rfl
  have t2 : (((Try.prog.fieldsOf 23)[1]?).getD default).type = 2 := by kernel_rfl
  have o2 : (((Try.prog.fieldsOf 23)[1]?).getD default).offset = 1 := by kernel_rfl
  generalize ((Try.prog.fieldsOf 23)[0]?).getD default = f1 at *
  generalize ((Try.prog.fieldsOf 23)[1]?).getD default = f2 at *
  rw [hfs]
  have w1 : f1.name ≠ "_" := by rw [n1]; decide
  have w2 : f2.name ≠ "_" := by rw [n2]; decide
  simp only [Op.eqFields, w1, w2, t1, t2, o1, o2, ne_eq, not_false_eq_true, if_true, Sem.run_bind, part_r0, Result.andThen_ok, eqI64]
  cases decide (a = x)
  · simp
  simp only [Sem.run_bind, part_r1, Result.andThen_ok, eqI64, Bool.not_true, if_false, Bool.true_and, Bool.false_eq_true]
  cases decide (b = y) <;> simp
theorem part_b0 (F : Nat → Rt) (w : World) : (part 23 (rtC F) (0 * 2)).run Try.prog w = .ok (.agg #[.int .i64 (F 0).1, .int .i64 (F 0).2]) w := by kernel_rfl
/-- Five fractions of which the first one has a Den that is not 0 are not no fractions. -/
theorem eqb_false (F : Nat → Rt) (h : (F 0).2 ≠ 0) (w : World) : (Op.equal 111 (.agg (rtC F)) (.agg (rtC fun _ => (0, 0)))).run Try.prog w = .ok false w := by
  unfold Op.equal Op.maxDepth
  obtain ⟨i, hi⟩ : ∃ i, Try.prog.info? 23 = some i := Option.isSome_iff_exists.1 (by kernel_rfl)
  rw [show (10000 : Nat) = 9999 + 1 from rfl, run_equalIn_array (P := Try.prog) w 9999 (rtC F) (rtC fun _ => (0, 0)) (n := 5) (e := 23) (by kernel_rfl) hi]
  rw [show Try.prog.cellsOf 23 = 2 by kernel_rfl, show List.range 5 = 0 :: [1, 2, 3, 4] from rfl, show (9999 : Nat) = 9997 + 2 from rfl]
  simp only [Op.eqItems, Sem.run_bind, part_b0, Result.andThen_ok, eq_ratio]
  rw [decide_eq_false (show ¬ (F 0).2 = 0 from h), Bool.and_false]
  simp
theorem eqb_true (w : World) : (Op.equal 111 (.agg (rtC fun _ => (0, 0))) (.agg (rtC fun _ => (0, 0)))).run Try.prog w = .ok true w := by kernel_rfl
theorem cmp_run {P : Program} {t : TypeId} {xo yo : Operand} {xs ys : Array Value} {b : Bool} (w : World) (hr : (Op.equal t (.agg xs) (.agg ys)).run P w = .ok b w)
    (hg : sy P true (eqGuard .eql t xo yo (.agg xs) (.agg ys)) ⟨[], w.heap.size, [], [], [], [], []⟩ = some ((), ⟨[], w.heap.size, [], [], [], [], []⟩)) :
    (cmpSem .eql t xo yo (.agg xs) (.agg ys)).run P w = .ok (.value (.bool b)) w := by
  obtain ⟨-, -, hq⟩ := sy_read (w0 := w) _ _ _ _ hg ⟨by simp, by simp, by simp, by simp⟩
  have hq := hq w ⟨by simp, Below.refl _ _⟩
  unfold cmpSem
  have e : binOp .eql t (.agg xs) (.agg ys) = Sem.bind (Op.equal t (.agg xs) (.agg ys)) fun r => Sem.pure (.bool r) := rfl
  show (Sem.bind (Sem.bind (eqGuard .eql t xo yo (.agg xs) (.agg ys)) fun _ => binOp .eql t (.agg xs) (.agg ys)) _).run P w = _
  rw [Sem.run_bind', Sem.run_bind', hq]
  show (Result.andThen ((binOp .eql t (.agg xs) (.agg ys)).run P w) _) = _
  rw [e, Sem.run_bind', hr]
  rfl
theorem rats_rtC {w : World} {g M : Nat} {F : Nat → Rt} {T : TypeId} (h : w.heap[g]? = some (.cells (rtC F) T (0, 0))) (hM : M ≤ 5) : RatsAt w w.heap.size (some ⟨g, 0, none⟩) M ((List.range M).map F) := by
  have hb := SlAt.block (enc := encR) (k := 2) (d := ((0, 0) : Rt)) (xs := (List.range M).map F) h (by simp; omega) (fun j hj q v hv => by
    simp only [List.length_map, List.length_range] at hj
    rw [List.getElem?_map, List.getElem?_range hj] at hv
    have hg := rtC_get (f := F) (show j < 5 by omega)
    rw [Nat.zero_add] at hg
    match q, hv with
    | 0, hv => cases hv; exact hg.1
    | 1, hv => cases hv; exact hg.2)
  simpa using hb
theorem rest_le {f : Nat → Rt} {k : Nat} : ∀ i, (∀ r, r < i → Chc (f r)) → (restP f k i).1 ≤ (restP f k i).2
  | 0, _ => by simp [restP]
  | i + 1, h => by
    have ih := rest_le (f := f) (k := k) i (fun r hr => h r (by omega))
    have hb := rest_bd (f := f) (k := k) i (fun r hr => h r (by omega))
    have hc := h i (by omega)
    unfold Chc at hc
    unfold restP
    split
    · exact ih
    · have hby := Int.mul_pos hb.2.1 hc.2.2.1
      have hm := rat_mul (n := (restP f k i).1 * (f i).2 - (f i).1 * (restP f k i).2) (d := (restP f k i).2 * (f i).2)
      have hg := gcdZ_pos (a := (restP f k i).1 * (f i).2 - (f i).1 * (restP f k i).2) (b := (restP f k i).2 * (f i).2) hby
      refine Int.le_of_mul_le_mul_right ?_ hg
      rw [← hm.1, ← hm.2]
      have m1 := Int.mul_le_mul_of_nonneg_right ih (show 0 ≤ (f i).2 by omega)
      have m2 := Int.mul_nonneg hc.1 (show 0 ≤ (restP f k i).2 by omega)
      omega
theorem rest_den {f : Nat → Rt} {k : Nat} : ∀ i, (∀ r, r < i → Chc (f r)) → (restP f k i).2 ≤ 200 ^ (if k < i then i - 1 else i)
  | 0, _ => by simp [restP]
  | i + 1, h => by
    have ih := rest_den (f := f) (k := k) i (fun r hr => h r (by omega))
    have hb := rest_bd (f := f) (k := k) i (fun r hr => h r (by omega))
    have hc := h i (by omega)
    unfold restP
    split
    · rename_i e
      rw [if_pos (by omega)]
      rw [if_neg (by omega)] at ih
      exact ih
    · rename_i e
      have := (minus_bd (a := (restP f k i).1) (b := (restP f k i).2) (x := (f i).1) (y := (f i).2) (K := (i : Int) + 1) (D := 200 ^ (if k < i then i - 1 else i)) hc ⟨hb.2.1, ih⟩ (by omega) hb.1).2.2
      refine Int.le_trans this ?_
      rw [← Int.pow_succ]
      split
      · rw [if_pos (by omega), show (i - 1).succ = i + 1 - 1 by omega]; exact Int.le_refl _
      · rw [if_neg (by omega)]; exact Int.le_refl _
theorem lcm_le {a b : Int} (ha : 0 < a) (hb : 0 < b) : lcmZ a b ≤ a * b := by
  have h := lcm_quo ha hb
  exact Int.mul_le_mul_of_nonneg_right h.2 (Int.le_of_lt hb)
def chE (m : Int) (qs : List Qt) : Int := if mktE m qs ≠ 0 then mktE m qs else if fairK m qs = none then 20 else 0
def chanL (m : Int) (qs : List Qt) : List Int := numsF ((List.range m.toNat).map (fairV m qs))
/-- What is known of fair chances that are returned. -/
theorem fair_is {m : Int} {qs : List Qt} {k : Nat} (h : fairK m qs = some k) : (k : Int) < m ∧ okK m qs k = true ∧ fairV m qs = chF m qs k := by
  have h9 := h
  unfold fairK at h
  rw [List.find?_range_eq_some] at h
  refine ⟨by have := List.mem_range.1 h.2.1; omega, h.1, ?_⟩
  funext r
  unfold fairV
  rw [h9]
theorem ch_ok {m : Int} {qs : List Qt} {k : Nat} (V : ValidM m qs) (_hk : (k : Int) < m) (h : okK m qs k = true) {r : Nat} (hr : (r : Int) < m) : 0 ≤ (chF m qs k r).1 ∧ (chF m qs k r).1 ≤ (chF m qs k r).2 ∧ 0 < (chF m qs k r).2 ∧ (chF m qs k r).2 ≤ if r = k then 1600000000 else 200 := by
  unfold chF
  split
  · have := end_chc (lay := false) (wo := (1, 1)) V (by unfold Chc; decide) hr
    unfold Chc at this
    unfold GF
    rw [if_neg (by omega)]
    omega
  · split
    · have hb := rst_bd V k
      have hm := V.few
      have hl := rest_le (f := mixF m qs k) (k := k) m.toNat fun r hr => mix_chc V (by omega)
      have hd := rest_den (f := mixF m qs k) (k := k) m.toNat fun r hr => mix_chc V (by omega)
      rw [if_pos (by omega)] at hd
      unfold okK at h
      rw [Bool.and_eq_true, decide_eq_true_eq] at h
      have e : (200 : Int) ^ (m.toNat - 1) ≤ 1600000000 := by
        have : m.toNat = 1 ∨ m.toNat = 2 ∨ m.toNat = 3 ∨ m.toNat = 4 ∨ m.toNat = 5 := by omega
        rcases this with h | h | h | h | h <;> rw [h] <;> decide
      unfold rstF at hb h ⊢
      exact ⟨h.1, hl, hb.2.1, Int.le_trans hd e⟩
    · have := end_chc (lay := true) (wo := (0, 1)) V (by unfold Chc; decide) hr
      unfold Chc at this
      unfold LF
      omega
theorem lcmP_bd {m : Int} {qs : List Qt} {k : Nat} (V : ValidM m qs) (hk : (k : Int) < m) (h : okK m qs k = true) : ∀ i : Nat, (i : Int) ≤ m → 0 < lcmP ((List.range m.toNat).map (chF m qs k)) i ∧ lcmP ((List.range m.toNat).map (chF m qs k)) i ≤ (if k < i then 1600000000 * 200 ^ (i - 1) else 200 ^ i)
  | 0, _ => by simp [lcmP]
  | i + 1, hi => by
    have ih := lcmP_bd V hk h i (by omega)
    have hc := ch_ok V hk h (r := i) (by omega)
    unfold lcmP
    rw [List.getElem?_map, List.getElem?_range (by omega)]
    show 0 < lcmZ _ (chF m qs k i).2 ∧ lcmZ _ (chF m qs k i).2 ≤ _
    refine ⟨lcm_pos ih.1 hc.2.2.1, Int.le_trans (lcm_le ih.1 hc.2.2.1) ?_⟩
    by_cases e : i = k
    · subst e
      rw [if_neg (by omega)] at ih
      rw [if_pos rfl] at hc
      rw [if_pos (by omega), Nat.add_sub_cancel]
      have := Int.mul_le_mul ih.2 hc.2.2.2 (by omega) (Int.pow_nonneg (by decide))
      rw [Int.mul_comm 1600000000]
      exact this
    · rw [if_neg e] at hc
      by_cases e2 : k < i
      · rw [if_pos e2] at ih
        rw [if_pos (by omega), show i + 1 - 1 = (i - 1) + 1 by omega, Int.pow_succ, ← Int.mul_assoc]
        exact Int.mul_le_mul ih.2 hc.2.2.2 (by omega) (Int.mul_nonneg (by decide) (Int.pow_nonneg (by decide)))
      · rw [if_neg e2] at ih
        rw [if_neg (by omega), Int.pow_succ]
        exact Int.mul_le_mul ih.2 hc.2.2.2 (by omega) (Int.pow_nonneg (by decide))
theorem lcmP_few {m : Int} {qs : List Qt} {k : Nat} (V : ValidM m qs) (hk : (k : Int) < m) (h : okK m qs k = true) {i : Nat} (hi : (i : Int) ≤ m) : 0 < lcmP ((List.range m.toNat).map (chF m qs k)) i ∧ lcmP ((List.range m.toNat).map (chF m qs k)) i ≤ 9000000000000000000 := by
  have hb := lcmP_bd V hk h i hi
  have hm := V.few
  refine ⟨hb.1, Int.le_trans hb.2 ?_⟩
  have : i = 0 ∨ i = 1 ∨ i = 2 ∨ i = 3 ∨ i = 4 ∨ i = 5 := by omega
  rcases this with rfl | rfl | rfl | rfl | rfl | rfl <;> split <;> decide
set_option maxHeartbeats 4000000 in
set_option maxRecDepth 20000 in
theorem Chances_any (w : World) (B : Nat) (m : Int) (A : Option Addr) (n c : Nat) (qs : List Qt) (hx : QtsAt w B A n qs) (hB : B ≤ w.heap.size) (hr : ∀ q ∈ qs, -9223372036854775808 ≤ q.r ∧ q.r ≤ 9223372036854775807) :
    Calls Try.prog 40 #[.agg #[.int .i64 m, .slice A n c]] w fun e w' => Below w.heap.size w w' ∧ (chE m qs ≠ 0 → e = .returned (.tuple #[.slice none 0 0, .int .i64 (chE m qs)])) ∧
      (chE m qs = 0 → ∃ A', e = .returned (.tuple #[.slice A' m.toNat m.toNat, .int .i64 0]) ∧ w'.ownsRow w.heap.size 2 1 (.slice A' m.toNat m.toNat) m.toNat (ints (chanL m qs))) := by
  have hl := hx.1
  have hn9 := hx.2.1
  refine enter 25 Try.func40 (by kernel_rfl) fun hA => ?_
  refine runS hA 10 [.k 0, .k 0] xn on (by kernel_rfl) fun w1 hA => ?_
  by_cases hE : mktE m qs = 0
  case pos =>
    have V := mkt_ok hE
    have hAp_mb := hA.atK [⟨w.heap.size, .cells #[.int .i64 m, .slice A n c] 44 (0, 0)⟩] (by kernel_rfl)
    refine call hA [] on (deskOf_ok w1 B m A n c qs (hx.below hA.below hB) (Nat.le_trans hB hA.size) hr hE) (by kernel_rfl) (by rintro e v ⟨mb, o, rfl, hbm, hmb, hmo, hmg⟩; exact hbm) ?_
    rintro e w2 ⟨mb, o, rfl, hbm, hmb, hmo, hmg⟩
    refine ⟨_, rfl, fun hA => ?_⟩
    have hAq_mb := At.know hAp_mb hbm hmb hmg
    refine reknow ⟨[⟨w.heap.size, .cells #[.int .i64 m, .slice A n c] 44 (0, 0)⟩, ⟨mb, o⟩], w2.heap.size, [], [], [], [], []⟩ hAq_mb (Nat.zero_le _) fun hA => ?_
    refine runS hA 21 (List.replicate 6 (.k 2)) xn on (by kernel_rfl) fun w3 hA => ?_
    have hfew := V.few
    refine callB hA [] on (fair_any w3 B m A n c mb qs (hx.below hA.below hB) (Nat.le_trans hB hA.size) V (MapO.at hmo (hA.at_.ok ⟨mb, o⟩ (List.mem_of_getElem? (i := 1) (by kernel_rfl)))) (hA.at_.lt (kb := ⟨mb, o⟩) (List.mem_of_getElem? (i := 1) (by kernel_rfl)))) (by kernel_rfl) fun w4 hb4 hA => ?_
    refine runS hA 9 (List.replicate 20 (.k 3)) xn on (by kernel_rfl) fun w5 hA => ?_
    cases hf : fairK m qs with
    | none =>
      have hfv : fairV m qs = fun _ => (0, 0) := by funext r; unfold fairV; rw [hf]
      have hcmp : (Op.equal 111 (.agg (rtC (fairV m qs))) (.agg (rtC fun _ => (0, 0)))).run Try.prog w5 = .ok true w5 := (by rw [hfv]; exact eqb_true w5)
      refine opv (v := .bool true) hA [] on (s := cmpSem .eql 111 (.tmp 17) (.tmp 18) (.agg (rtC (fairV m qs))) (.agg (rtC fun _ => (0, 0)))) (by kernel_rfl) (cmp_run w5 hcmp (by kernel_rfl)) fun hA => ?_
      refine runS hA 11 [] xn on (by kernel_rfl) fun w6 hA => ?_
      have hS : chE m qs = 20 := by unfold chE; rw [if_neg (by omega), if_pos hf]
      exact ret (v := .tuple #[.slice none 0 0, .int .i64 20]) hA [] (by kernel_rfl) ⟨hA.below, fun _ => by rw [hS], fun h => absurd (hS.symm.trans h) (by decide)⟩
    | some k =>
      have hq9 := fair_is hf
      obtain ⟨hk9, hok9, hfv⟩ := hq9
      have hden := (ch_ok V hk9 hok9 (r := 0) (by omega)).2.2.1
      have hcmp : (Op.equal 111 (.agg (rtC (fairV m qs))) (.agg (rtC fun _ => (0, 0)))).run Try.prog w5 = .ok false w5 := (eqb_false (fairV m qs) (by rw [hfv]; omega) w5)
      refine opv (v := .bool false) hA [] on (s := cmpSem .eql 111 (.tmp 17) (.tmp 18) (.agg (rtC (fairV m qs))) (.agg (rtC fun _ => (0, 0)))) (by kernel_rfl) (cmp_run w5 hcmp (by kernel_rfl)) fun hA => ?_
      refine runS hA 10 [.k 2] xn on (by kernel_rfl) fun w6 hA => ?_
      have hS : chE m qs = 0 := by unfold chE; rw [if_neg (by omega), if_neg (by rw [hf]; exact fun h => by cases h)]
      have hmc : m = 1 ∨ m = 2 ∨ m = 3 ∨ m = 4 ∨ m = 5 := by omega
      rcases hmc with rfl | rfl | rfl | rfl | rfl
      ·
        refine runS hA 1 [] xn on (by kernel_rfl) fun w7 hA => ?_
        have hrt := rats_rtC (M := 1) (F := fairV 1 qs) (T := 111) (hA.at_.ok ⟨w4.heap.size, .cells (rtC (fairV 1 qs)) 111 (0, 0)⟩ (List.mem_of_getElem? (i := 3) (by kernel_rfl))) (by decide)
        have hmem : ∀ r ∈ ((List.range 1).map (fairV 1 qs)), ∃ j : Nat, (j : Int) < 1 ∧ r = chF 1 qs k j := fun r hr => by
          have hq9 := List.mem_map.1 hr
          obtain ⟨j, hj, rfl⟩ := hq9
          exact ⟨j, by have := List.mem_range.1 hj; omega, by rw [hfv]⟩
        have hchn : chanL 1 qs = numsF ((List.range 1).map (fairV 1 qs)) := rfl
        have hAp9 := hA.atK [⟨w.heap.size, .cells #[.int .i64 1, .slice A n c] 44 (0, 0)⟩, ⟨mb, o⟩, ⟨w2.heap.size, .cells #[.int .i64 1, .slice A n c, .map (some mb)] 100 (0, 0)⟩, ⟨w4.heap.size, .cells #[.int .i64 ((fairV 1 qs 0).1), .int .i64 ((fairV 1 qs 0).2), .int .i64 ((fairV 1 qs 1).1), .int .i64 ((fairV 1 qs 1).2), .int .i64 ((fairV 1 qs 2).1), .int .i64 ((fairV 1 qs 2).2), .int .i64 ((fairV 1 qs 3).1), .int .i64 ((fairV 1 qs 3).2), .int .i64 ((fairV 1 qs 4).1), .int .i64 ((fairV 1 qs 4).2)] 111 (0, 0)⟩] (by kernel_rfl)
        refine call hA [] on (numbers_any w7 w7.heap.size _ 1 5 ((List.range 1).map (fairV 1 qs)) hrt (Nat.le_refl _) (by decide) (fun i hi => by rw [hfv]; exact lcmP_few V hk9 hok9 (i := i) (by omega)) (fun r hr => by obtain ⟨j, hj, rfl⟩ := hmem r hr; have := ch_ok V hk9 hok9 hj; split at this <;> omega) (fun r hr => by obtain ⟨j, hj, rfl⟩ := hmem r hr; have := ch_ok V hk9 hok9 hj; omega)) (by kernel_rfl) (by rintro e v ⟨A', rfl, hbn, hown⟩; exact hbn) ?_
        rintro e w8 ⟨A', rfl, hbn, hown⟩
        refine ⟨_, rfl, fun hA => ?_⟩
        have hq9 := At.own hAp9 hbn hown
        obtain ⟨ob9, hr9, hA9⟩ := hq9
        rw [List.append_nil] at hA9
        refine reknow ⟨[⟨w.heap.size, .cells #[.int .i64 1, .slice A n c] 44 (0, 0)⟩, ⟨mb, o⟩, ⟨w2.heap.size, .cells #[.int .i64 1, .slice A n c, .map (some mb)] 100 (0, 0)⟩, ⟨w4.heap.size, .cells #[.int .i64 ((fairV 1 qs 0).1), .int .i64 ((fairV 1 qs 0).2), .int .i64 ((fairV 1 qs 1).1), .int .i64 ((fairV 1 qs 1).2), .int .i64 ((fairV 1 qs 2).1), .int .i64 ((fairV 1 qs 2).2), .int .i64 ((fairV 1 qs 3).1), .int .i64 ((fairV 1 qs 3).2), .int .i64 ((fairV 1 qs 4).1), .int .i64 ((fairV 1 qs 4).2)] 111 (0, 0)⟩], w8.heap.size, [], [], [], [], []⟩ hA9 (Nat.zero_le _) fun hA => ?_
        refine runS hA 5 [] xn on (by kernel_rfl) fun w9 hA => ?_
        have hown9 := hr9.own (rest := []) (by rw [List.append_nil]; exact hA.atK [⟨w.heap.size, .cells #[.int .i64 1, .slice A n c] 44 (0, 0)⟩, ⟨mb, o⟩, ⟨w2.heap.size, .cells #[.int .i64 1, .slice A n c, .map (some mb)] 100 (0, 0)⟩, ⟨w4.heap.size, .cells #[.int .i64 ((fairV 1 qs 0).1), .int .i64 ((fairV 1 qs 0).2), .int .i64 ((fairV 1 qs 1).1), .int .i64 ((fairV 1 qs 1).2), .int .i64 ((fairV 1 qs 2).1), .int .i64 ((fairV 1 qs 2).2), .int .i64 ((fairV 1 qs 3).1), .int .i64 ((fairV 1 qs 3).2), .int .i64 ((fairV 1 qs 4).1), .int .i64 ((fairV 1 qs 4).2)] 111 (0, 0)⟩] (by kernel_rfl))
        exact ret (v := .tuple #[.slice A' 1 1, .int .i64 0]) hA [] (by kernel_rfl) ⟨hA.below, fun h => absurd hS h, fun _ => ⟨A', rfl, by rw [hchn]; exact hown9⟩⟩
      ·
        refine runS hA 1 [] xn on (by kernel_rfl) fun w7 hA => ?_
        have hrt := rats_rtC (M := 2) (F := fairV 2 qs) (T := 111) (hA.at_.ok ⟨w4.heap.size, .cells (rtC (fairV 2 qs)) 111 (0, 0)⟩ (List.mem_of_getElem? (i := 3) (by kernel_rfl))) (by decide)
        have hmem : ∀ r ∈ ((List.range 2).map (fairV 2 qs)), ∃ j : Nat, (j : Int) < 2 ∧ r = chF 2 qs k j := fun r hr => by
          have hq9 := List.mem_map.1 hr
          obtain ⟨j, hj, rfl⟩ := hq9
          exact ⟨j, by have := List.mem_range.1 hj; omega, by rw [hfv]⟩
        have hchn : chanL 2 qs = numsF ((List.range 2).map (fairV 2 qs)) := rfl
        have hAp9 := hA.atK [⟨w.heap.size, .cells #[.int .i64 2, .slice A n c] 44 (0, 0)⟩, ⟨mb, o⟩, ⟨w2.heap.size, .cells #[.int .i64 2, .slice A n c, .map (some mb)] 100 (0, 0)⟩, ⟨w4.heap.size, .cells #[.int .i64 ((fairV 2 qs 0).1), .int .i64 ((fairV 2 qs 0).2), .int .i64 ((fairV 2 qs 1).1), .int .i64 ((fairV 2 qs 1).2), .int .i64 ((fairV 2 qs 2).1), .int .i64 ((fairV 2 qs 2).2), .int .i64 ((fairV 2 qs 3).1), .int .i64 ((fairV 2 qs 3).2), .int .i64 ((fairV 2 qs 4).1), .int .i64 ((fairV 2 qs 4).2)] 111 (0, 0)⟩] (by kernel_rfl)
        refine call hA [] on (numbers_any w7 w7.heap.size _ 2 5 ((List.range 2).map (fairV 2 qs)) hrt (Nat.le_refl _) (by decide) (fun i hi => by rw [hfv]; exact lcmP_few V hk9 hok9 (i := i) (by omega)) (fun r hr => by obtain ⟨j, hj, rfl⟩ := hmem r hr; have := ch_ok V hk9 hok9 hj; split at this <;> omega) (fun r hr => by obtain ⟨j, hj, rfl⟩ := hmem r hr; have := ch_ok V hk9 hok9 hj; omega)) (by kernel_rfl) (by rintro e v ⟨A', rfl, hbn, hown⟩; exact hbn) ?_
        rintro e w8 ⟨A', rfl, hbn, hown⟩
        refine ⟨_, rfl, fun hA => ?_⟩
        have hq9 := At.own hAp9 hbn hown
        obtain ⟨ob9, hr9, hA9⟩ := hq9
        rw [List.append_nil] at hA9
        refine reknow ⟨[⟨w.heap.size, .cells #[.int .i64 2, .slice A n c] 44 (0, 0)⟩, ⟨mb, o⟩, ⟨w2.heap.size, .cells #[.int .i64 2, .slice A n c, .map (some mb)] 100 (0, 0)⟩, ⟨w4.heap.size, .cells #[.int .i64 ((fairV 2 qs 0).1), .int .i64 ((fairV 2 qs 0).2), .int .i64 ((fairV 2 qs 1).1), .int .i64 ((fairV 2 qs 1).2), .int .i64 ((fairV 2 qs 2).1), .int .i64 ((fairV 2 qs 2).2), .int .i64 ((fairV 2 qs 3).1), .int .i64 ((fairV 2 qs 3).2), .int .i64 ((fairV 2 qs 4).1), .int .i64 ((fairV 2 qs 4).2)] 111 (0, 0)⟩], w8.heap.size, [], [], [], [], []⟩ hA9 (Nat.zero_le _) fun hA => ?_
        refine runS hA 5 [] xn on (by kernel_rfl) fun w9 hA => ?_
        have hown9 := hr9.own (rest := []) (by rw [List.append_nil]; exact hA.atK [⟨w.heap.size, .cells #[.int .i64 2, .slice A n c] 44 (0, 0)⟩, ⟨mb, o⟩, ⟨w2.heap.size, .cells #[.int .i64 2, .slice A n c, .map (some mb)] 100 (0, 0)⟩, ⟨w4.heap.size, .cells #[.int .i64 ((fairV 2 qs 0).1), .int .i64 ((fairV 2 qs 0).2), .int .i64 ((fairV 2 qs 1).1), .int .i64 ((fairV 2 qs 1).2), .int .i64 ((fairV 2 qs 2).1), .int .i64 ((fairV 2 qs 2).2), .int .i64 ((fairV 2 qs 3).1), .int .i64 ((fairV 2 qs 3).2), .int .i64 ((fairV 2 qs 4).1), .int .i64 ((fairV 2 qs 4).2)] 111 (0, 0)⟩] (by kernel_rfl))
        exact ret (v := .tuple #[.slice A' 2 2, .int .i64 0]) hA [] (by kernel_rfl) ⟨hA.below, fun h => absurd hS h, fun _ => ⟨A', rfl, by rw [hchn]; exact hown9⟩⟩
      ·
        refine runS hA 1 [] xn on (by kernel_rfl) fun w7 hA => ?_
        have hrt := rats_rtC (M := 3) (F := fairV 3 qs) (T := 111) (hA.at_.ok ⟨w4.heap.size, .cells (rtC (fairV 3 qs)) 111 (0, 0)⟩ (List.mem_of_getElem? (i := 3) (by kernel_rfl))) (by decide)
        have hmem : ∀ r ∈ ((List.range 3).map (fairV 3 qs)), ∃ j : Nat, (j : Int) < 3 ∧ r = chF 3 qs k j := fun r hr => by
          have hq9 := List.mem_map.1 hr
          obtain ⟨j, hj, rfl⟩ := hq9
          exact ⟨j, by have := List.mem_range.1 hj; omega, by rw [hfv]⟩
        have hchn : chanL 3 qs = numsF ((List.range 3).map (fairV 3 qs)) := rfl
        have hAp9 := hA.atK [⟨w.heap.size, .cells #[.int .i64 3, .slice A n c] 44 (0, 0)⟩, ⟨mb, o⟩, ⟨w2.heap.size, .cells #[.int .i64 3, .slice A n c, .map (some mb)] 100 (0, 0)⟩, ⟨w4.heap.size, .cells #[.int .i64 ((fairV 3 qs 0).1), .int .i64 ((fairV 3 qs 0).2), .int .i64 ((fairV 3 qs 1).1), .int .i64 ((fairV 3 qs 1).2), .int .i64 ((fairV 3 qs 2).1), .int .i64 ((fairV 3 qs 2).2), .int .i64 ((fairV 3 qs 3).1), .int .i64 ((fairV 3 qs 3).2), .int .i64 ((fairV 3 qs 4).1), .int .i64 ((fairV 3 qs 4).2)] 111 (0, 0)⟩] (by kernel_rfl)
        refine call hA [] on (numbers_any w7 w7.heap.size _ 3 5 ((List.range 3).map (fairV 3 qs)) hrt (Nat.le_refl _) (by decide) (fun i hi => by rw [hfv]; exact lcmP_few V hk9 hok9 (i := i) (by omega)) (fun r hr => by obtain ⟨j, hj, rfl⟩ := hmem r hr; have := ch_ok V hk9 hok9 hj; split at this <;> omega) (fun r hr => by obtain ⟨j, hj, rfl⟩ := hmem r hr; have := ch_ok V hk9 hok9 hj; omega)) (by kernel_rfl) (by rintro e v ⟨A', rfl, hbn, hown⟩; exact hbn) ?_
        rintro e w8 ⟨A', rfl, hbn, hown⟩
        refine ⟨_, rfl, fun hA => ?_⟩
        have hq9 := At.own hAp9 hbn hown
        obtain ⟨ob9, hr9, hA9⟩ := hq9
        rw [List.append_nil] at hA9
        refine reknow ⟨[⟨w.heap.size, .cells #[.int .i64 3, .slice A n c] 44 (0, 0)⟩, ⟨mb, o⟩, ⟨w2.heap.size, .cells #[.int .i64 3, .slice A n c, .map (some mb)] 100 (0, 0)⟩, ⟨w4.heap.size, .cells #[.int .i64 ((fairV 3 qs 0).1), .int .i64 ((fairV 3 qs 0).2), .int .i64 ((fairV 3 qs 1).1), .int .i64 ((fairV 3 qs 1).2), .int .i64 ((fairV 3 qs 2).1), .int .i64 ((fairV 3 qs 2).2), .int .i64 ((fairV 3 qs 3).1), .int .i64 ((fairV 3 qs 3).2), .int .i64 ((fairV 3 qs 4).1), .int .i64 ((fairV 3 qs 4).2)] 111 (0, 0)⟩], w8.heap.size, [], [], [], [], []⟩ hA9 (Nat.zero_le _) fun hA => ?_
        refine runS hA 5 [] xn on (by kernel_rfl) fun w9 hA => ?_
        have hown9 := hr9.own (rest := []) (by rw [List.append_nil]; exact hA.atK [⟨w.heap.size, .cells #[.int .i64 3, .slice A n c] 44 (0, 0)⟩, ⟨mb, o⟩, ⟨w2.heap.size, .cells #[.int .i64 3, .slice A n c, .map (some mb)] 100 (0, 0)⟩, ⟨w4.heap.size, .cells #[.int .i64 ((fairV 3 qs 0).1), .int .i64 ((fairV 3 qs 0).2), .int .i64 ((fairV 3 qs 1).1), .int .i64 ((fairV 3 qs 1).2), .int .i64 ((fairV 3 qs 2).1), .int .i64 ((fairV 3 qs 2).2), .int .i64 ((fairV 3 qs 3).1), .int .i64 ((fairV 3 qs 3).2), .int .i64 ((fairV 3 qs 4).1), .int .i64 ((fairV 3 qs 4).2)] 111 (0, 0)⟩] (by kernel_rfl))
        exact ret (v := .tuple #[.slice A' 3 3, .int .i64 0]) hA [] (by kernel_rfl) ⟨hA.below, fun h => absurd hS h, fun _ => ⟨A', rfl, by rw [hchn]; exact hown9⟩⟩
      ·
        refine runS hA 1 [] xn on (by kernel_rfl) fun w7 hA => ?_
        have hrt := rats_rtC (M := 4) (F := fairV 4 qs) (T := 111) (hA.at_.ok ⟨w4.heap.size, .cells (rtC (fairV 4 qs)) 111 (0, 0)⟩ (List.mem_of_getElem? (i := 3) (by kernel_rfl))) (by decide)
        have hmem : ∀ r ∈ ((List.range 4).map (fairV 4 qs)), ∃ j : Nat, (j : Int) < 4 ∧ r = chF 4 qs k j := fun r hr => by
          have hq9 := List.mem_map.1 hr
          obtain ⟨j, hj, rfl⟩ := hq9
          exact ⟨j, by have := List.mem_range.1 hj; omega, by rw [hfv]⟩
        have hchn : chanL 4 qs = numsF ((List.range 4).map (fairV 4 qs)) := rfl
        have hAp9 := hA.atK [⟨w.heap.size, .cells #[.int .i64 4, .slice A n c] 44 (0, 0)⟩, ⟨mb, o⟩, ⟨w2.heap.size, .cells #[.int .i64 4, .slice A n c, .map (some mb)] 100 (0, 0)⟩, ⟨w4.heap.size, .cells #[.int .i64 ((fairV 4 qs 0).1), .int .i64 ((fairV 4 qs 0).2), .int .i64 ((fairV 4 qs 1).1), .int .i64 ((fairV 4 qs 1).2), .int .i64 ((fairV 4 qs 2).1), .int .i64 ((fairV 4 qs 2).2), .int .i64 ((fairV 4 qs 3).1), .int .i64 ((fairV 4 qs 3).2), .int .i64 ((fairV 4 qs 4).1), .int .i64 ((fairV 4 qs 4).2)] 111 (0, 0)⟩] (by kernel_rfl)
        refine call hA [] on (numbers_any w7 w7.heap.size _ 4 5 ((List.range 4).map (fairV 4 qs)) hrt (Nat.le_refl _) (by decide) (fun i hi => by rw [hfv]; exact lcmP_few V hk9 hok9 (i := i) (by omega)) (fun r hr => by obtain ⟨j, hj, rfl⟩ := hmem r hr; have := ch_ok V hk9 hok9 hj; split at this <;> omega) (fun r hr => by obtain ⟨j, hj, rfl⟩ := hmem r hr; have := ch_ok V hk9 hok9 hj; omega)) (by kernel_rfl) (by rintro e v ⟨A', rfl, hbn, hown⟩; exact hbn) ?_
        rintro e w8 ⟨A', rfl, hbn, hown⟩
        refine ⟨_, rfl, fun hA => ?_⟩
        have hq9 := At.own hAp9 hbn hown
        obtain ⟨ob9, hr9, hA9⟩ := hq9
        rw [List.append_nil] at hA9
        refine reknow ⟨[⟨w.heap.size, .cells #[.int .i64 4, .slice A n c] 44 (0, 0)⟩, ⟨mb, o⟩, ⟨w2.heap.size, .cells #[.int .i64 4, .slice A n c, .map (some mb)] 100 (0, 0)⟩, ⟨w4.heap.size, .cells #[.int .i64 ((fairV 4 qs 0).1), .int .i64 ((fairV 4 qs 0).2), .int .i64 ((fairV 4 qs 1).1), .int .i64 ((fairV 4 qs 1).2), .int .i64 ((fairV 4 qs 2).1), .int .i64 ((fairV 4 qs 2).2), .int .i64 ((fairV 4 qs 3).1), .int .i64 ((fairV 4 qs 3).2), .int .i64 ((fairV 4 qs 4).1), .int .i64 ((fairV 4 qs 4).2)] 111 (0, 0)⟩], w8.heap.size, [], [], [], [], []⟩ hA9 (Nat.zero_le _) fun hA => ?_
        refine runS hA 5 [] xn on (by kernel_rfl) fun w9 hA => ?_
        have hown9 := hr9.own (rest := []) (by rw [List.append_nil]; exact hA.atK [⟨w.heap.size, .cells #[.int .i64 4, .slice A n c] 44 (0, 0)⟩, ⟨mb, o⟩, ⟨w2.heap.size, .cells #[.int .i64 4, .slice A n c, .map (some mb)] 100 (0, 0)⟩, ⟨w4.heap.size, .cells #[.int .i64 ((fairV 4 qs 0).1), .int .i64 ((fairV 4 qs 0).2), .int .i64 ((fairV 4 qs 1).1), .int .i64 ((fairV 4 qs 1).2), .int .i64 ((fairV 4 qs 2).1), .int .i64 ((fairV 4 qs 2).2), .int .i64 ((fairV 4 qs 3).1), .int .i64 ((fairV 4 qs 3).2), .int .i64 ((fairV 4 qs 4).1), .int .i64 ((fairV 4 qs 4).2)] 111 (0, 0)⟩] (by kernel_rfl))
        exact ret (v := .tuple #[.slice A' 4 4, .int .i64 0]) hA [] (by kernel_rfl) ⟨hA.below, fun h => absurd hS h, fun _ => ⟨A', rfl, by rw [hchn]; exact hown9⟩⟩
      ·
        refine runS hA 1 [] xn on (by kernel_rfl) fun w7 hA => ?_
        have hrt := rats_rtC (M := 5) (F := fairV 5 qs) (T := 111) (hA.at_.ok ⟨w4.heap.size, .cells (rtC (fairV 5 qs)) 111 (0, 0)⟩ (List.mem_of_getElem? (i := 3) (by kernel_rfl))) (by decide)
        have hmem : ∀ r ∈ ((List.range 5).map (fairV 5 qs)), ∃ j : Nat, (j : Int) < 5 ∧ r = chF 5 qs k j := fun r hr => by
          have hq9 := List.mem_map.1 hr
          obtain ⟨j, hj, rfl⟩ := hq9
          exact ⟨j, by have := List.mem_range.1 hj; omega, by rw [hfv]⟩
        have hchn : chanL 5 qs = numsF ((List.range 5).map (fairV 5 qs)) := rfl
        have hAp9 := hA.atK [⟨w.heap.size, .cells #[.int .i64 5, .slice A n c] 44 (0, 0)⟩, ⟨mb, o⟩, ⟨w2.heap.size, .cells #[.int .i64 5, .slice A n c, .map (some mb)] 100 (0, 0)⟩, ⟨w4.heap.size, .cells #[.int .i64 ((fairV 5 qs 0).1), .int .i64 ((fairV 5 qs 0).2), .int .i64 ((fairV 5 qs 1).1), .int .i64 ((fairV 5 qs 1).2), .int .i64 ((fairV 5 qs 2).1), .int .i64 ((fairV 5 qs 2).2), .int .i64 ((fairV 5 qs 3).1), .int .i64 ((fairV 5 qs 3).2), .int .i64 ((fairV 5 qs 4).1), .int .i64 ((fairV 5 qs 4).2)] 111 (0, 0)⟩] (by kernel_rfl)
        refine call hA [] on (numbers_any w7 w7.heap.size _ 5 5 ((List.range 5).map (fairV 5 qs)) hrt (Nat.le_refl _) (by decide) (fun i hi => by rw [hfv]; exact lcmP_few V hk9 hok9 (i := i) (by omega)) (fun r hr => by obtain ⟨j, hj, rfl⟩ := hmem r hr; have := ch_ok V hk9 hok9 hj; split at this <;> omega) (fun r hr => by obtain ⟨j, hj, rfl⟩ := hmem r hr; have := ch_ok V hk9 hok9 hj; omega)) (by kernel_rfl) (by rintro e v ⟨A', rfl, hbn, hown⟩; exact hbn) ?_
        rintro e w8 ⟨A', rfl, hbn, hown⟩
        refine ⟨_, rfl, fun hA => ?_⟩
        have hq9 := At.own hAp9 hbn hown
        obtain ⟨ob9, hr9, hA9⟩ := hq9
        rw [List.append_nil] at hA9
        refine reknow ⟨[⟨w.heap.size, .cells #[.int .i64 5, .slice A n c] 44 (0, 0)⟩, ⟨mb, o⟩, ⟨w2.heap.size, .cells #[.int .i64 5, .slice A n c, .map (some mb)] 100 (0, 0)⟩, ⟨w4.heap.size, .cells #[.int .i64 ((fairV 5 qs 0).1), .int .i64 ((fairV 5 qs 0).2), .int .i64 ((fairV 5 qs 1).1), .int .i64 ((fairV 5 qs 1).2), .int .i64 ((fairV 5 qs 2).1), .int .i64 ((fairV 5 qs 2).2), .int .i64 ((fairV 5 qs 3).1), .int .i64 ((fairV 5 qs 3).2), .int .i64 ((fairV 5 qs 4).1), .int .i64 ((fairV 5 qs 4).2)] 111 (0, 0)⟩], w8.heap.size, [], [], [], [], []⟩ hA9 (Nat.zero_le _) fun hA => ?_
        refine runS hA 5 [] xn on (by kernel_rfl) fun w9 hA => ?_
        have hown9 := hr9.own (rest := []) (by rw [List.append_nil]; exact hA.atK [⟨w.heap.size, .cells #[.int .i64 5, .slice A n c] 44 (0, 0)⟩, ⟨mb, o⟩, ⟨w2.heap.size, .cells #[.int .i64 5, .slice A n c, .map (some mb)] 100 (0, 0)⟩, ⟨w4.heap.size, .cells #[.int .i64 ((fairV 5 qs 0).1), .int .i64 ((fairV 5 qs 0).2), .int .i64 ((fairV 5 qs 1).1), .int .i64 ((fairV 5 qs 1).2), .int .i64 ((fairV 5 qs 2).1), .int .i64 ((fairV 5 qs 2).2), .int .i64 ((fairV 5 qs 3).1), .int .i64 ((fairV 5 qs 3).2), .int .i64 ((fairV 5 qs 4).1), .int .i64 ((fairV 5 qs 4).2)] 111 (0, 0)⟩] (by kernel_rfl))
        exact ret (v := .tuple #[.slice A' 5 5, .int .i64 0]) hA [] (by kernel_rfl) ⟨hA.below, fun h => absurd hS h, fun _ => ⟨A', rfl, by rw [hchn]; exact hown9⟩⟩
  case neg =>
    refine callB hA [] on (deskOf_bad w1 B m A n c qs (hx.below hA.below hB) (Nat.le_trans hB hA.size) hr hE) (by kernel_rfl) fun w2 hb2 hA => ?_
    refine runS hA 15 [.k 1, .k 1, .k 1, .t 0] xn on (by kernel_rfl) fun w3 hA => ?_
    by_cases ht1 : (mktE m qs) = (0 : Int)
    case pos =>
      omega
    case neg =>
      refine runS hA 10 [.b true] xn (oc (ne_t ht1) on) (by kernel_rfl) fun w4 hA => ?_
      have hS : chE m qs = mktE m qs := by unfold chE; rw [if_pos hE]
      exact ret (v := .tuple #[.slice none 0 0, .int .i64 (mktE m qs)]) hA [] (by kernel_rfl) ⟨hA.below, fun _ => by rw [hS], fun h => absurd (hS.symm.trans h) hE⟩
end Go.Proofs.Ytfidkgpimlpdbaa

/- odds: what stakes are, as lists; deletion at a known place. -/
namespace Go.Proofs.Ytfidkgpimlpdbaa
open Go.RowKit Go.Shelf

/-- delete(m, p) where the entries are known. -/
theorem mapDelE {κ : Type} {kt : TypeId} {ek : κ → Value} {α : Type} {enc : α → Value} {b : Nat} {m : List (κ × α)} [DecidableEq κ] {c : Ctx} {S : Sta} {w : World} {rows : List KB} {mt et kt' ty : TypeId} {p : κ} {es : Array MapEntry} {clock i : Nat} {v0 : α} (hA : AtS c S w rows) (K : KeyT c.P kt ek) (j : Nat)
    (he : es.toList.map (fun e => (e.key, e.val)) = m.map (fun x => (ek x.1, enc x.2))) (_hc : ∀ e ∈ es.toList, e.born < clock) (_hn : (es.toList.map (·.born)).Nodup) (hf : mfind p m = some (i, v0))
    (h : (noDraw S, nth S.env.known j, semOf c.P c.N S [], c.P.underlying mt) = (true, some ⟨b, .map es clock⟩, some (delSem mt kt' ty (.map (some b)) (ek p), []), some (.map kt et)))
    (k : ∀ w', AtS c (knS (valS c.N S (.tuple #[]) w'.heap.size) (S.env.known.set j ⟨b, .map (es.eraseIdxIfInBounds i) clock⟩)) w' rows → Run c (knS (valS c.N S (.tuple #[]) w'.heap.size) (S.env.known.set j ⟨b, .map (es.eraseIdxIfInBounds i) clock⟩)) w') : Run c S w := by
  simp only [Prod.mk.injEq] at h
  obtain ⟨h0, h1, h2, h3⟩ := h
  have h1' := h1
  rw [nth_eq] at h1
  have hh := hA.at_.ok _ (List.mem_of_getElem? h1)
  have hg := run_getMap (P := c.P) b es clock hh
  have hrun : (Builtin.delete_ #[mt, kt'] ty #[.map (some b), ek p]).run c.P w = .ok (.tuple #[]) (w.putObj b (.map (es.eraseIdxIfInBounds i) clock)) := by
    simp [Builtin.delete_, Sem.run_bind, run_underlying h3, Result.andThen, hg, K.check, findKey_pl K enc p w es.toList m he, hf, run_putObj (P := c.P) b es clock _ hh]
  refine opw [] on (s := delSem mt kt' ty (.map (some b)) (ek p)) (by rw [h0, h2]) (nx := .value (.tuple #[])) (v := .tuple #[]) ?_ (.inl rfl) (At.resize (At.put hA.at_ h1' _)) (by simpa using hA.lo) (k _)
  unfold delSem
  rw [Sem.run_bind', hrun]
  rfl
/-! ### entries: born, key, place -/
abbrev Ent := Nat × (Int × Bool) × Nat
def entL (es : Array MapEntry) (T : List Ent) : Prop := es.toList.map (fun e => (e.key, e.val)) = T.map (fun t => (sideV t.2.1, idxV t.2.2)) ∧ es.toList.map (·.born) = T.map (·.1)
def keepT (p : Int × Bool → Bool) (seen : List Nat) (t : Ent) : Bool := !seen.contains t.1 || p t.2.1
theorem entL.size {es : Array MapEntry} {T : List Ent} (h : entL es T) : es.size = T.length := by have := congrArg List.length h.2; simpa using this
theorem entL.get {es : Array MapEntry} {T : List Ent} (h : entL es T) {i : Nat} (hi : i < es.size) : ∃ t, T[i]? = some t ∧ es[i].born = t.1 ∧ es[i].key = sideV t.2.1 ∧ es[i].val = idxV t.2.2 := by
  have hiT : i < T.length := by rw [← h.size]; exact hi
  refine ⟨T[i], List.getElem?_eq_getElem hiT, ?_, ?_⟩
  · have := congrArg (fun l => l[i]?) h.2
    simp only [List.getElem?_map, List.getElem?_eq_getElem hiT, Array.getElem?_toList, Array.getElem?_eq_getElem hi, Option.map_some, Option.some.injEq] at this
    exact this
  · have := congrArg (fun l => l[i]?) h.1
    simp only [List.getElem?_map, List.getElem?_eq_getElem hiT, Array.getElem?_toList, Array.getElem?_eq_getElem hi, Option.map_some, Option.some.injEq, Prod.mk.injEq] at this
    exact this
theorem entL.erase {es : Array MapEntry} {T : List Ent} (h : entL es T) (i : Nat) : entL (es.eraseIdxIfInBounds i) (T.eraseIdx i) := by
  refine ⟨?_, ?_⟩
  · rw [erase_list, map_eraseIdx', h.1, map_eraseIdx']
  · rw [erase_list, map_eraseIdx', h.2, map_eraseIdx']
/-- Keys that stand once are found where they stand. -/
theorem find_at {m : List ((Int × Bool) × Nat)} : ∀ {i : Nat} {e : (Int × Bool) × Nat}, (m.map (·.1)).Nodup → m[i]? = some e → mfind e.1 m = some (i, e.2) := by
  induction m with
  | nil => intro i e _ h; cases h
  | cons x m ih =>
    intro i e hn h
    rw [List.map_cons, List.nodup_cons] at hn
    show (if e.1 = x.1 then some (0, x.2) else (mfind e.1 m).map fun r => (r.1 + 1, r.2)) = _
    cases i with
    | zero =>
      simp only [List.getElem?_cons_zero, Option.some.injEq] at h
      subst h
      rw [if_pos rfl]
    | succ i =>
      rw [List.getElem?_cons_succ] at h
      have hm : e.1 ∈ m.map (·.1) := List.mem_map.2 ⟨e, List.mem_of_getElem? h, rfl⟩
      rw [if_neg (show ¬ e.1 = x.1 from fun e9 => hn.1 (by rw [← e9]; exact hm)), ih hn.2 h]
      rfl
theorem mset_cons (p : Int × Bool) (v : Nat) (x : (Int × Bool) × Nat) (m : List ((Int × Bool) × Nat)) : mset p v (x :: m) = if p = x.1 then (x.1, v) :: m else x :: mset p v m := rfl
theorem mset_keys {p : Int × Bool} {v : Nat} : ∀ {m : List ((Int × Bool) × Nat)}, (m.map (·.1)).Nodup → ((mset p v m).map (·.1)).Nodup
  | [], _ => by
    show ([(p, v)].map (·.1)).Nodup
    simp
  | x :: m, h => by
    rw [List.map_cons, List.nodup_cons] at h
    rw [mset_cons]
    split
    · rw [List.map_cons, List.nodup_cons]
      exact h
    · rename_i hne
      rw [List.map_cons, List.nodup_cons]
      refine ⟨fun hm => ?_, mset_keys h.2⟩
      obtain ⟨e, he, h9⟩ := List.mem_map.1 hm
      rcases mem_mset he with rfl | he
      · exact hne h9
      · exact h.1 (List.mem_map.2 ⟨e, he, h9⟩)
theorem bestM_keys (qs : List Qt) : ∀ i, ((bestM qs i).map (·.1)).Nodup
  | 0 => List.nodup_nil
  | i + 1 => by
    have ih := bestM_keys qs i
    unfold bestM bstep
    split <;> exact mset_keys ih
/-! ### one round of the loop that leaves out -/
theorem nodup_erase {T : List Ent} {i : Nat} {t : Ent} (hn : (T.map (·.1)).Nodup) (h : T[i]? = some t) : T.eraseIdx i = T.filter fun x => decide (x.1 ≠ t.1) := by
  induction T generalizing i with
  | nil => cases h
  | cons x T ih =>
    rw [List.map_cons, List.nodup_cons] at hn
    cases i with
    | zero =>
      simp only [List.getElem?_cons_zero, Option.some.injEq] at h
      subst h
      rw [List.eraseIdx_cons_zero, List.filter_cons_of_neg (by simp)]
      refine (List.filter_eq_self.2 fun y hy => ?_).symm
      simp only [ne_eq, decide_not, Bool.not_eq_true', decide_eq_false_iff_not]
      exact fun e => hn.1 (List.mem_map.2 ⟨y, hy, e⟩)
    | succ i =>
      rw [List.getElem?_cons_succ] at h
      have hm : t.1 ∈ T.map (·.1) := List.mem_map.2 ⟨t, List.mem_of_getElem? h, rfl⟩
      rw [List.eraseIdx_cons_succ, ih hn.2 h, List.filter_cons_of_pos (by simp; exact fun e => hn.1 (e ▸ hm))]
theorem born_eq {T : List Ent} (hn : (T.map (·.1)).Nodup) {s t : Ent} (hs : s ∈ T) (ht : t ∈ T) (e : s.1 = t.1) : s = t := by
  induction T with
  | nil => cases hs
  | cons x T ih =>
    rw [List.map_cons, List.nodup_cons] at hn
    rcases List.mem_cons.1 hs with rfl | hs2 <;> rcases List.mem_cons.1 ht with rfl | ht2
    · rfl
    · exact (hn.1 (List.mem_map.2 ⟨t, ht2, e.symm⟩)).elim
    · exact (hn.1 (List.mem_map.2 ⟨s, hs2, e⟩)).elim
    · exact ih hn.2 hs2 ht2
structure Lp (p : Int × Bool → Bool) (T0 : List Ent) (T : List Ent) (seen : List Nat) : Prop where
  n0 : (T0.map (·.1)).Nodup
  eq : T = T0.filter (keepT p seen)
theorem Lp.sub {p : Int × Bool → Bool} {T0 T : List Ent} {seen : List Nat} (h : Lp p T0 T seen) : T.Sublist T0 := h.eq ▸ List.filter_sublist
theorem Lp.nd {p : Int × Bool → Bool} {T0 T : List Ent} {seen : List Nat} (h : Lp p T0 T seen) : (T.map (·.1)).Nodup := (h.sub.map _).nodup h.n0
theorem Lp.start {p : Int × Bool → Bool} {T0 : List Ent} (h : (T0.map (·.1)).Nodup) : Lp p T0 T0 [] := ⟨h, (List.filter_eq_self.2 fun x _ => by simp [keepT]).symm⟩
theorem Lp.stay {p : Int × Bool → Bool} {T0 T : List Ent} {seen : List Nat} (h : Lp p T0 T seen) {t : Ent} (ht : t ∈ T) (hp : p t.2.1 = true) : Lp p T0 T (seen ++ [t.1]) := by
  refine ⟨h.n0, h.eq.trans (List.filter_congr fun x hx => ?_)⟩
  unfold keepT
  by_cases e : x.1 = t.1
  · rw [born_eq h.n0 hx (h.sub.subset ht) e, hp, Bool.or_true, Bool.or_true]
  · simp [e]
theorem Lp.drop {p : Int × Bool → Bool} {T0 T : List Ent} {seen : List Nat} (h : Lp p T0 T seen) {i : Nat} {t : Ent} (ht : T[i]? = some t) (hp : p t.2.1 = false) : Lp p T0 (T.eraseIdx i) (seen ++ [t.1]) := by
  have hm := List.mem_of_getElem? ht
  refine ⟨h.n0, ?_⟩
  rw [nodup_erase h.nd ht, h.eq, List.filter_filter]
  refine List.filter_congr fun x hx => ?_
  unfold keepT
  by_cases e : x.1 = t.1
  · rw [born_eq h.n0 hx (h.sub.subset hm) e, hp]
    simp
  · simp [e]
theorem Lp.done {p : Int × Bool → Bool} {T0 T : List Ent} {seen : List Nat} (h : Lp p T0 T seen) (hall : ∀ t ∈ T, t.1 ∈ seen) : T = T0.filter fun t => p t.2.1 := by
  rw [h.eq]
  refine List.filter_congr fun x hx => ?_
  by_cases hs : x.1 ∈ seen
  · simp [keepT, hs]
  · have hk : x ∈ T := by rw [h.eq]; exact List.mem_filter.2 ⟨hx, by simp [keepT, hs]⟩
    exact absurd (hall x hk) hs
/-- How many are left. -/
def leftT (T : List Ent) (seen : List Nat) : Nat := (T.filter fun t => decide (t.1 ∉ seen)).length
theorem left_stay {T : List Ent} {seen : List Nat} {t : Ent} (ht : t ∈ T) (hs : t.1 ∉ seen) : leftT T (seen ++ [t.1]) < leftT T seen := by
  unfold leftT
  have e : T.filter (fun x => decide (x.1 ∉ seen ++ [t.1])) = (T.filter fun x => decide (x.1 ∉ seen)).filter fun x => decide (x.1 ≠ t.1) := by
    rw [List.filter_filter]
    refine List.filter_congr fun x _ => ?_
    by_cases h1 : x.1 ∈ seen <;> by_cases h2 : x.1 = t.1 <;> simp [h1, h2]
  rw [e]
  exact List.length_filter_lt_length_iff_exists.2 ⟨t, List.mem_filter.2 ⟨ht, by simpa using hs⟩, by simp⟩
theorem left_drop {T : List Ent} {seen : List Nat} {i : Nat} {t : Ent} (ht : T[i]? = some t) (hs : t.1 ∉ seen) : leftT (T.eraseIdx i) (seen ++ [t.1]) < leftT T seen := by
  have h1 := left_stay (List.mem_of_getElem? ht) hs
  have h2 : leftT (T.eraseIdx i) (seen ++ [t.1]) ≤ leftT T (seen ++ [t.1]) := by
    unfold leftT
    exact ((List.eraseIdx_sublist T i).filter _).length_le
  omega
end Go.Proofs.Ytfidkgpimlpdbaa

/- odds: clone, choices' functions, stakes as lists. -/
namespace Go.Proofs.Ytfidkgpimlpdbaa
open Go.RowKit Go.Shelf

set_option maxRecDepth 100000 in
set_option maxHeartbeats 2000000 in
theorem clone_any (b : Nat) (es : Array MapEntry) (clock : Nat) (w : World) (hb : w.heap[b]? = some (.map es clock)) :
    Calls Try.prog 113 #[.map (some b)] w fun e w' => e = .returned (.map (some w.heap.size)) ∧ w' = w.alloc (.map es clock) := by
  have hq := fun w => run_eql_map_nil_sl (P := Try.prog) w 98 _ _ (some b) Try.underlying98
  go_enter Try.func113, Try.ntmps113
  go_wp2_with (fail)
  rw [run_callFunc_extern Try.func125 (by kernel_rfl) (by kernel_rfl) (by kernel_rfl) (e := Extern.MapsClone.clone) (by kernel_rfl), run_maps_clone_sl w 98 hb]
  simp only [Result.andThen]
  rw [Oper.upon_value]
  go_wp2
  rw [run_typeAssert_map_sl _ 98 20 _ _ _ Try.underlying98]
  simp only [Result.andThen]
  rw [Oper.upon_value]
  go_wp2
  go_ret
  exact ⟨rfl, rfl⟩
set_option maxRecDepth 20000 in
theorem meant0_any (w : World) (s : Int × Bool) :
    Calls Try.prog 110 #[.agg #[.int .i64 s.1, .bool s.2]] w fun e w' => e = .returned (.bool (!s.2)) ∧ Below w.heap.size w w' := by
  refine enter 6 Try.func110 (by kernel_rfl) fun hA => ?_
  refine runS hA 15 [.k 0] xn on (by kernel_rfl) fun w1 hA => ?_
  exact ret (v := .bool (!s.2)) hA [] (by kernel_rfl) ⟨by rfl, hA.below⟩
set_option maxRecDepth 20000 in
theorem meant1_any (w : World) (s : Int × Bool) :
    Calls Try.prog 111 #[.agg #[.int .i64 s.1, .bool s.2]] w fun e w' => e = .returned (.bool s.2) ∧ Below w.heap.size w w' := by
  refine enter 5 Try.func111 (by kernel_rfl) fun hA => ?_
  refine runS hA 14 [.k 0] xn on (by kernel_rfl) fun w1 hA => ?_
  exact ret (v := .bool s.2) hA [] (by kernel_rfl) ⟨by rfl, hA.below⟩
set_option maxRecDepth 20000 in
theorem meant2_any (w : World) (s : Int × Bool) (r : Int) (bx : Nat) (hc : bx < w.heap.size ∧ w.cell? ⟨bx, 0, none⟩ = some (.int .i64 r)) :
    Calls Try.prog 112 #[.agg #[.int .i64 s.1, .bool s.2], .pointer (some ⟨bx, 0, none⟩)] w fun e w' => e = .returned (.bool (s.1 == r)) ∧ Below w.heap.size w w' := by
  refine enter 8 Try.func112 (by kernel_rfl) fun hA => ?_
  refine runS hA 16 [.k 0, .x (.int .i64 r)] (xc (a := ⟨bx, 0, none⟩) hc xn) on (by kernel_rfl) fun w1 hA => ?_
  exact ret (v := .bool (s.1 == r)) hA [] (by kernel_rfl) ⟨by rfl, hA.below⟩
/-! ### stakes as lists -/
def bdQ (qs : List Qt) (i : Nat) : Rt := bndF (qs[i]?.getD noQ).n (qs[i]?.getD noQ).d
/-- The entries that are meant. -/
def mtM (qs : List Qt) (p : Int × Bool → Bool) : List ((Int × Bool) × Nat) := (bestM qs qs.length).filter fun e => p e.1
def lcmE (qs : List Qt) : List Nat → Int
  | [] => 1
  | i :: is => lcmZ (lcmE qs is) (bdQ qs i).2
theorem lcmZ_nat {a b : Int} (ha : 0 < a) (hb : 0 < b) : lcmZ a b = (Nat.lcm a.natAbs b.natAbs : Int) := by
  obtain ⟨x, rfl⟩ : ∃ x : Nat, a = (x : Int) := ⟨a.toNat, by omega⟩
  obtain ⟨y, rfl⟩ : ∃ y : Nat, b = (y : Int) := ⟨b.toNat, by omega⟩
  unfold lcmZ gcdZ Nat.lcm
  simp only [Int.natAbs_natCast]
  show (x : Int) / ((Nat.gcd x y : Nat) : Int) * (y : Int) = _
  rw [Nat.mul_comm, Nat.mul_div_assoc _ (Nat.gcd_dvd_left x y), Nat.mul_comm]
  norm_cast
def Oks (qs : List Qt) (is : List Nat) : Prop := ∀ i ∈ is, 0 < (bdQ qs i).2 ∧ (bdQ qs i).2 ≤ 200
theorem lcmE_pos {qs : List Qt} : ∀ {is : List Nat}, Oks qs is → 0 < lcmE qs is ∧ lcmE qs is ≤ 200 ^ is.length
  | [], _ => by simp [lcmE]
  | i :: is, h => by
    have ih := lcmE_pos (is := is) fun j hj => h j (List.mem_cons_of_mem _ hj)
    have hi := h i List.mem_cons_self
    unfold lcmE
    refine ⟨lcm_pos ih.1 hi.1, Int.le_trans (lcm_le ih.1 hi.1) ?_⟩
    rw [List.length_cons, Int.pow_succ]
    exact Int.mul_le_mul ih.2 hi.2 (Int.le_of_lt hi.1) (Int.pow_nonneg (by decide))
theorem lcmE_perm {qs : List Qt} {is js : List Nat} (h : is.Perm js) (hk : Oks qs is) : lcmE qs is = lcmE qs js := by
  induction h with
  | nil => rfl
  | cons x h ih => simp only [lcmE, ih fun j hj => hk j (List.mem_cons_of_mem _ hj)]
  | swap x y l =>
    have hl := lcmE_pos (is := l) fun j hj => hk j (List.mem_cons_of_mem _ (List.mem_cons_of_mem _ hj))
    have hx := hk x (by simp)
    have hy := hk y (by simp)
    simp only [lcmE]
    have p1 := lcm_pos hl.1 hx.1
    have p2 := lcm_pos hl.1 hy.1
    rw [lcmZ_nat p1 hy.1, lcmZ_nat p2 hx.1, lcmZ_nat hl.1 hx.1, lcmZ_nat hl.1 hy.1, Int.natAbs_natCast, Int.natAbs_natCast, Nat.lcm_assoc, Nat.lcm_assoc, Nat.lcm_comm (bdQ qs x).2.natAbs]
  | trans h1 h2 ih1 ih2 => exact (ih1 hk).trans (ih2 fun j hj => hk j (h1.mem_iff.2 hj))
/-- The stake on a quote. -/
def stkV (qs : List Qt) (p : Int × Bool → Bool) (j : Nat) : Int := lcmE qs ((mtM qs p).map (·.2)) / (bdQ qs j).2 * (bdQ qs j).1
def stkL (qs : List Qt) (p : Int × Bool → Bool) : List Int := (List.range qs.length).map fun j => if j ∈ (mtM qs p).map (·.2) then stkV qs p j else 0
theorem mt_lt {qs : List Qt} {p : Int × Bool → Bool} {j : Nat} (h : j ∈ (mtM qs p).map (·.2)) : j < qs.length ∧ ((sideF (qs[j]?.getD noQ)), j) ∈ bestM qs qs.length ∧ p (sideF (qs[j]?.getD noQ)) = true := by
  obtain ⟨e, he, rfl⟩ := List.mem_map.1 h
  unfold mtM at he
  rw [List.mem_filter] at he
  have := bestM_lt qs qs.length e he.1
  refine ⟨this.1, ?_, ?_⟩
  · rw [← this.2]; exact he.1
  · rw [← this.2]; exact he.2
theorem mt_oks {m : Int} {qs : List Qt} {p : Int × Bool → Bool} (V : ValidM m qs) : Oks qs ((mtM qs p).map (·.2)) := fun j hj => by
  have h := (mt_lt hj).1
  have := strict_ok V h
  have := bnd_ok this.1 this.2
  unfold bdQ
  omega
end Go.Proofs.Ytfidkgpimlpdbaa

/- odds: facts for the loops of stake. -/
namespace Go.Proofs.Ytfidkgpimlpdbaa
open Go.RowKit Go.Shelf

theorem clone_k (b : Nat) (es : Array MapEntry) (clock : Nat) (w : World) (hb : w.heap[b]? = some (.map es clock)) :
    Calls Try.prog 113 #[.map (some b)] w fun e w' => ∃ mc, e = .returned (.map (some mc)) ∧ Below w.heap.size w w' ∧ w'.heap[mc]? = some (.map es clock) ∧ w.heap.size ≤ mc :=
  (clone_any b es clock w hb).mono fun e w' h => ⟨w.heap.size, h.1, by rw [h.2]; exact (Below.refl _ _).alloc (Nat.le_refl _) _, by rw [h.2]; exact World.alloc_heap_new w _, Nat.le_refl _⟩
/-- The entries of a map's object. -/
theorem ent_of {es : Array MapEntry} {clock : Nat} {m : List ((Int × Bool) × Nat)} (he : es.toList.map (fun e => (e.key, e.val)) = m.map (fun x => (sideV x.1, idxV x.2))) (hc : ∀ e ∈ es.toList, e.born < clock) (hn : (es.toList.map (·.born)).Nodup) :
    ∃ T : List Ent, entL es T ∧ T.map (·.2) = m ∧ (T.map (·.1)).Nodup ∧ ∀ t ∈ T, t.1 < clock := by
  have hl : es.toList.length = m.length := by have := congrArg List.length he; simpa using this
  have h1 : ((es.toList.map (·.born)).zip m).map (·.1) = es.toList.map (·.born) := by
    show List.map Prod.fst _ = _
    rw [List.map_fst_zip (by rw [List.length_map]; omega)]
  have h2 : ((es.toList.map (·.born)).zip m).map (·.2) = m := by
    show List.map Prod.snd _ = _
    rw [List.map_snd_zip (by rw [List.length_map]; omega)]
  refine ⟨(es.toList.map (·.born)).zip m, ⟨?_, h1.symm⟩, h2, by rw [h1]; exact hn, fun t ht => ?_⟩
  · rw [he]
    conv => lhs; rw [← h2]
    rw [List.map_map]
    rfl
  · have : t.1 ∈ es.toList.map (·.born) := by rw [← h1]; exact List.mem_map_of_mem ht
    obtain ⟨e, he9, h9⟩ := List.mem_map.1 this
    rw [← h9]
    exact hc e he9
theorem ent_lt {es : Array MapEntry} {T : List Ent} {clock : Nat} (h : entL es T) (hc : ∀ t ∈ T, t.1 < clock) : ∀ e ∈ es.toList, e.born < clock := fun e he => by
  have : e.born ∈ T.map (·.1) := by rw [← h.2]; exact List.mem_map_of_mem he
  obtain ⟨t, ht, h9⟩ := List.mem_map.1 this
  rw [← h9]
  exact hc t ht
theorem ent_nd {es : Array MapEntry} {T : List Ent} (h : entL es T) (hn : (T.map (·.1)).Nodup) : (es.toList.map (·.born)).Nodup := by rw [h.2]; exact hn
theorem ent_key {T : List Ent} {i : Nat} {t : Ent} (hk : ((T.map (·.2)).map (·.1)).Nodup) (h : T[i]? = some t) : mfind t.2.1 (T.map (·.2)) = some (i, t.2.2) := find_at hk (by rw [List.getElem?_map, h]; rfl)
theorem ent_mo {es : Array MapEntry} {T : List Ent} (h : entL es T) : es.toList.map (fun e => (e.key, e.val)) = (T.map (·.2)).map (fun x => (sideV x.1, idxV x.2)) := by rw [h.1, List.map_map]; rfl
theorem filter_snd (p : Int × Bool → Bool) (T : List Ent) : (T.filter fun t => p t.2.1).map (·.2) = (T.map (·.2)).filter fun e => p e.1 := by
  rw [List.filter_map]
  rfl
/-! ### places of entries -/
def plT (T : List Ent) (i : Nat) : Nat := (T[i]?.map (·.2.2)).getD 0
def bornE (es : Array MapEntry) (j : Nat) : Nat := (es[j]?.map (·.born)).getD 0
theorem bornE_at {es : Array MapEntry} {i : Nat} (hi : i < es.size) : bornE es i = es[i].born := by simp [bornE, hi]
theorem perm_range {l : List Nat} {n : Nat} (hn : l.Nodup) (hl : ∀ i ∈ l, i < n) (ha : ∀ i, i < n → i ∈ l) : l.Perm (List.range n) :=
  (List.perm_ext_iff_of_nodup hn List.nodup_range).2 fun i => ⟨fun h => List.mem_range.2 (hl i h), fun h => ha i (List.mem_range.1 h)⟩
theorem nodup_len : ∀ (n : Nat) (l : List Nat), l.Nodup → (∀ i ∈ l, i < n) → l.length ≤ n
  | 0, [], _, _ => Nat.le_refl _
  | 0, i :: l, _, h => absurd (h i List.mem_cons_self) (by omega)
  | n + 1, l, hn, h => by
    have h1 := nodup_len n (l.erase n) (hn.erase n) (fun i hi => by
      have h2 := h i (List.mem_of_mem_erase hi)
      have h3 : i ≠ n := fun e => by subst e; exact (List.Nodup.not_mem_erase hn) hi
      omega)
    have h2 := List.length_erase (a := n) (l := l)
    split at h2 <;> omega
theorem not_seen {es : Array MapEntry} {is : List Nat} {i : Nat} (hi : i < es.size) (h : es[i].born ∉ is.map (bornE es)) : i ∉ is := fun hm => h (List.mem_map.2 ⟨i, hm, bornE_at hi⟩)
theorem seen_in {es : Array MapEntry} {is : List Nat} {i : Nat} (hi : i < es.size) (hn : (es.toList.map (·.born)).Nodup) (his : ∀ j ∈ is, j < es.size) (h : es[i].born ∈ is.map (bornE es)) : i ∈ is := by
  obtain ⟨j, hj, e⟩ := List.mem_map.1 h
  have hjs := his j hj
  rw [bornE_at hjs] at e
  have : j = i := by
    rcases Nat.lt_trichotomy i j with hlt | rfl | hlt
    · exact absurd e.symm (by have := List.pairwise_iff_getElem.1 hn i j (by simpa using hi) (by simpa using hjs) hlt; simpa using this)
    · rfl
    · exact absurd e (by have := List.pairwise_iff_getElem.1 hn j i (by simpa using hjs) (by simpa using hi) hlt; simpa using this)
  exact this ▸ hj
theorem pl_range (T : List Ent) : (List.range T.length).map (plT T) = T.map (·.2.2) := by
  apply List.ext_getElem?
  intro i
  by_cases h : i < T.length
  · rw [List.getElem?_map, List.getElem?_range h, List.getElem?_map, List.getElem?_eq_getElem h]
    simp [plT, h]
  · rw [List.getElem?_eq_none (by simp; omega), List.getElem?_eq_none (by simp; omega)]
theorem pl_mem {T : List Ent} {i : Nat} {t : Ent} (h : T[i]? = some t) : plT T i = t.2.2 := by simp [plT, h]
theorem oks_sub {qs : List Qt} {T : List Ent} (h : Oks qs (T.map (·.2.2))) {is : List Nat} (hi : ∀ i ∈ is, i < T.length) : Oks qs (is.map (plT T)) := fun j hj => by
  obtain ⟨i, hm, rfl⟩ := List.mem_map.1 hj
  have hl := hi i hm
  refine h _ (List.mem_map.2 ⟨T[i], List.getElem_mem hl, (pl_mem (List.getElem?_eq_getElem hl)).symm⟩)
theorem pow_few {k : Nat} (h : k ≤ 5) : (200 : Int) ^ k ≤ 320000000000 := by
  have : k = 0 ∨ k = 1 ∨ k = 2 ∨ k = 3 ∨ k = 4 ∨ k = 5 := by omega
  rcases this with rfl | rfl | rfl | rfl | rfl | rfl <;> decide
theorem run_clear_zero {P : Program} (w : World) (t e ty : TypeId) (z : Value) (ht : P.underlying t = some (.slice e)) (_hv : ∀ w, (zeroValue e).run P w = .ok z w) (_hz : z.cells = #[z]) (b o c : Nat) :
    (Builtin.clear_ #[t] ty #[.slice (some ⟨b, o, none⟩) 0 c]).run P w = .ok (.tuple #[]) (w.setCells b o (List.replicate 0 z)) := by
  simp [Builtin.clear_, run_underlying ht, World.setCells]
end Go.Proofs.Ytfidkgpimlpdbaa

/- odds: stake. -/
namespace Go.Proofs.Ytfidkgpimlpdbaa
open Go.RowKit Go.Shelf


/-- Cells of the first known block are written. -/
theorem At.setKn {w0 : World} {kn rows : List KB} {sz g : Nat} {T : TypeId} (vs : List Value) (o : Nat) (w : World) (cur : Array Value) (h : At w0 w (⟨g, .cells cur T (0, 0)⟩ :: kn) rows sz) (ho : o + vs.length ≤ cur.size) :
    ∃ cur' : Array Value, cur'.size = cur.size ∧ (∀ j, cur'[j]? = if o ≤ j ∧ j < o + vs.length then vs[j - o]? else cur[j]?) ∧ At w0 (w.setCells g o vs) (⟨g, .cells cur' T (0, 0)⟩ :: kn) rows sz := by
  obtain ⟨cur', h1, h2, h3⟩ := At.setRow vs o w cur (At.swap h) ho
  exact ⟨cur', h1, h2, At.swap h3⟩
theorem infoI : ∃ i, Try.prog.info? 2 = some i ∧ i.size = 1 ∧ i.zero = some (.int .i64 0) := by
  obtain ⟨i, hi⟩ : ∃ i, Try.prog.info? 2 = some i := Option.isSome_iff_exists.1 (by kernel_rfl)
  have h1 : (Try.prog.info? 2).map (fun i => (i.size, i.zero)) = some (1, some (.int .i64 0)) := by kernel_rfl
  rw [hi] at h1
  simp only [Option.map_some, Option.some.injEq, Prod.mk.injEq] at h1
  exact ⟨i, hi, h1.1, h1.2⟩
theorem in_cons {n i : Nat} {is : List Nat} (hi : i < n) (h : ∀ j ∈ is, j < n) : ∀ k ∈ i :: is, k < n := fun k hk => (List.mem_cons.1 hk).elim (fun e => e ▸ hi) (h k)
theorem seen_push {es : Array MapEntry} {sn : Array Nat} {is : List Nat} {i : Nat} (hi : i < es.size) (h : ∀ x, x ∈ sn.toList ↔ x ∈ is.map (bornE es)) : ∀ x, x ∈ (sn.push es[i].born).toList ↔ x ∈ (i :: is).map (bornE es) := fun y => by
  simp only [Array.toList_push, List.mem_append, List.map_cons, List.mem_cons, h]
  rw [bornE_at hi]
  simp only [List.not_mem_nil, or_false]
  exact Or.comm
theorem cells_push {cu : Array Value} {n i p : Nat} {is : List Nat} {T : List Ent} {F : Nat → Int} {v : Value} (hs : cu.size = n) (hp : p < n) (hpl : plT T i = p) (hv : v = .int .i64 (F p)) (h : ∀ j, j < n → cu[j]? = some (.int .i64 (if j ∈ is.map (plT T) then F j else 0))) :
    ∀ j, j < n → (cu.setIfInBounds p v)[j]? = some (.int .i64 (if j ∈ (i :: is).map (plT T) then F j else 0)) := fun j hj => by
  rw [Array.getElem?_setIfInBounds, List.map_cons, hpl]
  by_cases h9 : p = j
  · subst h9
    rw [if_pos rfl, if_pos (by omega), if_pos List.mem_cons_self, hv]
  · rw [if_neg h9, h j hj]
    congr 2
    by_cases h8 : j ∈ is.map (plT T)
    · rw [if_pos h8, if_pos (List.mem_cons_of_mem _ h8)]
    · rw [if_neg h8, if_neg (fun h7 => (List.mem_cons.1 h7).elim (fun h6 => h9 h6.symm) h8)]
theorem all_seen {p : Int × Bool → Bool} {T0 T : List Ent} {es : Array MapEntry} {seen : List Nat} (hL : Lp p T0 T seen) (hE : entL es T) (hall : ∀ i, (hi : i < es.size) → es[i].born ∈ seen) : T = T0.filter fun t => p t.2.1 := hL.done fun t ht => by
  obtain ⟨i, hi, rfl⟩ := List.mem_iff_getElem.1 ht
  have h8 : i < es.size := by rw [hE.size]; exact hi
  obtain ⟨t', h1, h2, -⟩ := hE.get h8
  rw [List.getElem?_eq_getElem hi] at h1
  cases h1
  rw [← h2]
  exact hall i h8
theorem fin_cells {qs : List Qt} {p : Int × Bool → Bool} {cu : Array Value} {n : Nat} {is : List Nat} {T : List Ent} (hl : qs.length = n) (hTI : T.map (·.2.2) = (mtM qs p).map (·.2)) (hpm : is.Perm (List.range T.length)) (hcc : ∀ j, j < n → cu[j]? = some (.int .i64 (if j ∈ is.map (plT T) then stkV qs p j else 0))) :
    ∀ j, j < n → cu[j]? = some (.int .i64 ((stkL qs p)[j]?.getD 0)) := fun j hj => by
  rw [hcc j hj]
  unfold stkL
  rw [List.getElem?_map, List.getElem?_range (by omega)]
  have hiff : j ∈ is.map (plT T) ↔ j ∈ (mtM qs p).map (·.2) := by rw [← hTI, ← pl_range]; exact (hpm.map _).mem_iff
  by_cases h9 : j ∈ is.map (plT T)
  · rw [if_pos h9]; simp only [Option.map_some, Option.getD_some]; rw [if_pos (hiff.1 h9)]
  · rw [if_neg h9]; simp only [Option.map_some, Option.getD_some]; rw [if_neg (fun h => h9 (hiff.2 h))]
theorem all_perm {es : Array MapEntry} {T : List Ent} {is : List Nat} {sn : List Nat} (hs : es.size = T.length) (hn : (es.toList.map (·.born)).Nodup) (hnd : is.Nodup) (hin : ∀ i ∈ is, i < T.length) (hsn : ∀ x, x ∈ sn ↔ x ∈ is.map (bornE es)) (hall : ∀ i, (hi : i < es.size) → es[i].born ∈ sn) : is.Perm (List.range T.length) :=
  perm_range hnd hin fun i hi => seen_in (by omega) hn (fun j hj => by have := hin j hj; omega) ((hsn _).1 (hall i (by omega)))
theorem lt_of_T {qs : List Qt} {p : Int × Bool → Bool} {T : List Ent} {n : Nat} (hl : qs.length = n) (hTI : T.map (·.2.2) = (mtM qs p).map (·.2)) : ∀ (i : Nat) (t : Ent), T[i]? = some t → t.2.2 < n := fun i t ht => by
  have := (mt_lt (qs := qs) (p := p) (j := t.2.2) (by rw [← hTI]; exact List.mem_map.2 ⟨t, List.mem_of_getElem? ht, rfl⟩)).1
  omega
end Go.Proofs.Ytfidkgpimlpdbaa
