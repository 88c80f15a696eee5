/- Parts of a proof: FH. -/
import Derived.Test.YthjgecblkagelaaGreatW34

/- TurnWaited: the walk. -/
namespace Go.Proofs.YthjgecblkagelaaGreat
open Go.RowKit Go.Shelf

attribute [local go_sem] Oper.semAt_some

/-! ### pure facts -/
def sumP (ps : List Int) : Nat := (ps.map fun x => 2 ^ x.toNat).sum
def sumsOk : Bool := (List.range 6).all fun n => (List.range (2 ^ n)).all fun b => sumP (bitsL n b) == b
theorem sumsOk_true : sumsOk = true := by kernel_rfl
theorem sum_bits {n b : Nat} (hn : n ≤ 5) (hb : b < 2 ^ n) : sumP (bitsL n b) = b := by
  have := sumsOk_true
  unfold sumsOk at this
  have := (List.all_eq_true.1 ((List.all_eq_true.1 this) n (List.mem_range.2 (by omega)))) b (List.mem_range.2 hb)
  simpa using this
theorem sumP_append (a b : List Int) : sumP (a ++ b) = sumP a + sumP b := by
  unfold sumP
  rw [List.map_append, List.sum_append]
theorem sum_take {ps : List Int} {j : Nat} (hj : j < ps.length) : sumP (ps.take (j + 1)) = sumP (ps.take j) + 2 ^ (ps[j]?.getD 0).toNat := by
  rw [List.take_succ_eq_append_getElem hj, List.getElem?_eq_getElem hj, sumP_append]
  simp [sumP]
theorem sum_le (ps : List Int) (j : Nat) : sumP (ps.take j) ≤ sumP ps := by
  have h := List.take_append_drop j ps
  have e : sumP ps = sumP (ps.take j) + sumP (ps.drop j) := by
    conv => lhs; rw [← h]
    exact sumP_append _ _
  omega
theorem bitsL_incr (n b : Nat) : ∀ i j : Nat, i < j → j < (bitsL n b).length → (bitsL n b)[i]?.getD 0 < (bitsL n b)[j]?.getD 0 := by
  intro i j hij hj
  have h : (bitsL n b).Pairwise (· < ·) := by
    unfold bitsL bitsN
    rw [List.pairwise_map]
    exact (List.pairwise_lt_range.filter _).imp fun h => by omega
  have := (List.pairwise_iff_getElem.1 h) i j (by omega) hj hij
  rw [List.getElem?_eq_getElem hj, List.getElem?_eq_getElem (show i < (bitsL n b).length by omega)]
  exact this
theorem first_less : ∀ (us bs : List Int), us.length = bs.length → firstF us bs = true → 0 < scmpF bs us
  | [], [], _, h => by simp [firstF] at h
  | [], _ :: _, h, _ => by simp at h
  | _ :: _, [], h, _ => by simp at h
  | a :: us, b :: bs, hl, h => by
    rw [firstF] at h
    unfold scmpF cmpF
    by_cases hab : a = b
    · rw [if_pos hab] at h
      subst hab
      simp
      exact first_less us bs (by simpa using hl) h
    · rw [if_neg hab, decide_eq_true_iff] at h
      have h1 : ¬ b < a ∨ b < a := by omega
      have h2 : ¬ (b < a) := by omega
      simp [h2, h]
theorem good_zero {ts ss : List Int} (h0 : statedF ts ss = 0) : goodB ts ss 0 = true ↔ plOf ss ∉ dq ts := by
  obtain ⟨hv, -, -⟩ := stated_valid h0
  have hn := nice_stated h0
  have hpos : 0 < 2 ^ ts.length := Nat.pow_pos (by omega)
  have he : bitsL ts.length 0 = [] := by simp [bitsL, bitsN]
  rw [good_same h0 hpos, he]
  have hf : ∀ p, pullF ts (lacksF []) p = pullF ts allF p := fun p => by
    have : lacksF [] = allF := by funext i; simp [lacksF, allF]
    rw [this]
  unfold waitF
  rw [hf]
  constructor
  · intro h hd
    cases hq : pullF ts allF (plOf ss) with
    | none => rw [hq] at h; simp at h
    | some q =>
      rw [hq] at h
      simp only [List.any_eq_true, List.mem_range, decide_eq_true_iff] at h
      obtain ⟨i, hi, hm⟩ := h
      have hmem : (i, q.set i 0) ∈ visitsF ts (plOf ss) := by
        unfold visitsF
        rw [hq]
        exact List.mem_map.2 ⟨i, List.mem_range.2 hi, rfl⟩
      have hyn : Nice ts (q.set i 0) := ((visits_mem hv.h5).1 hmem).nice hv hn
      exact ((dq_safe hv hyn).1 hm) ((dq_suc hv hd hmem).1)
  · intro hd
    obtain ⟨y, hy, hyd⟩ := dq_out hv hn hd
    have hyn : Nice ts y.2 := ((visits_mem hv.h5).1 hy).nice hv hn
    unfold visitsF at hy
    cases hq : pullF ts allF (plOf ss) with
    | none => rw [hq] at hy; simp at hy
    | some q =>
      rw [hq] at hy
      obtain ⟨i, hi, rfl⟩ := List.mem_map.1 hy
      simp only [List.any_eq_true, decide_eq_true_iff]
      exact ⟨i, hi, (dq_safe hv hyn).2 hyd⟩
/-- What Wait answers: nothing is enough; or these, and no fewer, nor earlier ones. -/
theorem wait_forms {ts ss : List Int} (h0 : statedF ts ss = 0) :
    (waitR ts ss = ([], 17) ∧ (∀ k, k < 2 ^ ts.length → goodB ts ss k = false) ∧ (doomR ts ss).2 = 0) ∨
    (∃ b, b < 2 ^ ts.length ∧ waitR ts ss = (bitsL ts.length b, 0) ∧ goodB ts ss b = true ∧ (∀ k, k < 2 ^ ts.length → goodB ts ss k = true → gle (bitsL ts.length b) (bitsL ts.length k)) ∧
      (((bitsL ts.length b).length = 0 ∧ (doomR ts ss).2 = 5) ∨ ((bitsL ts.length b).length ≠ 0 ∧ (doomR ts ss).2 = 0))) := by
  have hpos : 0 < 2 ^ ts.length := Nat.pow_pos (by omega)
  have hr : waitR ts ss = waitV (rwaitF ts ss (2 ^ ts.length)) := by rw [wait_same]; unfold rwaitR; rw [if_neg (by simp [h0])]
  have he : bitsL ts.length 0 = [] := by simp [bitsL, bitsN]
  have hz := good_zero h0
  have hsafe : safeF ts ss = decide (plOf ss ∉ dq ts) := rfl
  rw [hr, doom_code h0, hsafe]
  rcases rwait_spec ts ss (2 ^ ts.length) with ⟨h1, h2⟩ | ⟨b, hb, h1, h2, h3⟩
  · left
    rw [h1]
    refine ⟨rfl, h2, ?_⟩
    have := h2 0 hpos
    have hd : ¬ (plOf ss ∉ dq ts) := fun h => by rw [hz.2 h] at this; cases this
    rw [decide_eq_false hd]
    rfl
  · right
    rw [h1]
    refine ⟨b, hb, rfl, h2, h3, ?_⟩
    by_cases hd : plOf ss ∉ dq ts
    · left
      rw [decide_eq_true hd]
      have := h3 0 hpos (hz.2 hd)
      rw [he] at this
      unfold gle at this
      simp at this
      refine ⟨?_, rfl⟩
      rw [List.length_eq_zero_iff]
      exact this.1
    · right
      rw [decide_eq_false hd]
      refine ⟨fun hl => hd ?_, rfl⟩
      have hbe : bitsL ts.length b = [] := List.length_eq_zero_iff.1 hl
      have : goodB ts ss 0 = true := by
        rw [good_same h0 hpos, he, ← hbe, ← good_same h0 hb]
        exact h2
      exact hz.1 this
/-- Fewer ones, or earlier ones, are not enough. -/
theorem wait_fewer {ts ss : List Int} {b k : Nat} (h3 : ∀ k, k < 2 ^ ts.length → goodB ts ss k = true → gle (bitsL ts.length b) (bitsL ts.length k)) (hk : k < 2 ^ ts.length)
    (h : (bitsL ts.length k).length < (bitsL ts.length b).length ∨ ((bitsL ts.length k).length = (bitsL ts.length b).length ∧ firstF (bitsL ts.length k) (bitsL ts.length b) = true)) : goodB ts ss k = false := by
  cases hg : goodB ts ss k with
  | false => rfl
  | true =>
    exfalso
    have := h3 k hk hg
    unfold gle at this
    rcases h with h | ⟨h, hf⟩
    · omega
    · have := first_less _ _ h hf
      omega

theorem waits_end (w w' : World) (q : Nat) (hq : w' = w.drewN q) : Below w.heap.size w w' := by rw [hq]; exact ⟨rfl, rfl, rfl, Nat.le_refl _, fun _ _ => rfl⟩

set_option maxRecDepth 100000 in
set_option maxHeartbeats 16000000 in
theorem TurnWaited_any (w : World) (B1 B2 : Nat) (A1 A2 : Option Addr) (n c m d : Nat) (given : Int) (ts bs : List Int) (h1 : IntsAt w B1 A1 n ts) (hB1 : B1 ≤ w.heap.size) (h2 : U8At w B2 A2 m bs) (hB2 : B2 ≤ w.heap.size) (hgiven : 0 ≤ given ∧ given ≤ 255) :
    Calls Tryz.prog 5 #[.agg #[.slice A1 n c], .slice A2 m d, .int .u8 given] w fun e w' => e = .returned (.bool true) ∧ Below w.heap.size w w' := by
  have hb0 : Below w.heap.size w (w.alloc (.cells #[.slice A1 n c] 24)) := (Below.refl _ w).alloc (Nat.le_refl _) _
  have x0 := Boxed.new w 24 (.slice A1 n c)
  have hm8 := h2.2.1
  go_enter Tryz.func5, Tryz.ntmps5
  go_wp2_with (fail)
  refine (fine_any _ B1 A1 n c ts (h1.below hb0 hB1) (by have := hb0.size; omega)).mono ?_
  rintro e w2 ⟨rfl, hb2⟩
  have hB2' := hb0.trans (hb2.mono hb0.size)
  have x2 := bxBelow x0 hb2 x0.lt
  have c2 := x2.cell
  have hz2 := hB2'.size
  clear hb0 hb2 x0
  by_cases hc : checkHallF ts = 0
  case neg =>
    rw [decide_eq_false hc]
    clear hc
    go_wp2_with (fail)
    refine (Works_any _).mono ?_
    rintro e w3 ⟨rfl, hb⟩
    go_wp2_with (fail)
    go_ret
    exact ⟨rfl, hB2'.trans (hb.mono hz2)⟩
  rw [decide_eq_true hc]
  have hv := valid_of hc
  have h1n : 1 ≤ n := by have := hv.h1; have := h1.len; omega
  have h5n : n ≤ 5 := by have := hv.h5; have := h1.len; omega
  have Hv := Lib.hid (And.intro hv (And.intro hc h1.len))
  clear hv hc
  by_cases hml : 20 < (m : Int)
  · go_wp2_with (fail)
    refine (Works_any _).mono ?_
    rintro e w3 ⟨rfl, hb⟩
    go_wp2_with (fail)
    go_ret
    exact ⟨rfl, hB2'.trans (hb.mono hz2)⟩
  go_wp2_with (fail)
  refine (State_any w2 B1 B2 A1 A2 n c m d ts bs (h1.below hB2' hB1) (by omega) (h2.below hB2' hB2) (by omega) Hv.out.1).mono ?_
  rintro e w3 hpost
  obtain ⟨g, s0, hg, rfl, hrow, ⟨hs0, hok⟩, hb3⟩ := hpost
  have hB3' := hB2'.trans (hb3.mono hz2)
  have x3 := bxBelow x2 hb3 x2.lt
  have hz3 := hB3'.size
  have hst : statedF ts s0 = 0 := by
    unfold statedF
    rw [if_neg (by rw [Hv.out.2.1]; simp), if_neg (by have := Hv.out.2.2; simp; omega), if_pos hok]
  have hi3 : IntsAt w3 w3.heap.size (some ⟨g, 0, none⟩) n s0 := by
    refine ⟨hs0, by omega, fun _ => ⟨g, 0, rfl, ?_, fun j hj => ?_⟩⟩
    · rcases Nat.lt_or_ge g w3.heap.size with h | h
      · exact h
      · rw [Array.getElem?_eq_none h] at hrow
        cases hrow
    · simp [World.cell?, hrow, show j < s0.length by omega]
  have H3 := Lib.hid (And.intro hst (And.intro hi3 hs0))
  clear hi3 hrow hok hb3 x2 c2 hB2' hz2 hs0 hst hg
  have c3 := x3.cell
  have hB1' : B1 ≤ w3.heap.size := by omega
  go_wp2_with (fail)
  refine (Wait_any w3 B1 w3.heap.size A1 (some ⟨g, 0, none⟩) n c n n ts s0 (h1.below hB3' hB1) hB1' H3.out.2.1 (Nat.le_refl _) (fun h => ⟨ends_all Hv.out.1, h5n⟩)).mono ?_
  intro e w5 hd5
  obtain ⟨R, hR⟩ : ∃ R, R = waitR ts s0 := ⟨_, rfl⟩
  rw [← hR] at hd5
  obtain ⟨A5, m5, c5, rfl, hi5, hb5⟩ := hd5
  have hm5 := hi5.small
  have hl5 := hi5.len
  have hB5 := hB3'.trans (hb5.mono hz3)
  have x5 := bxBelow x3 hb5 x3.lt
  have c5' := x5.cell
  have hz5 := hB5.size
  have hz35 := hb5.size
  have H5 := Lib.hid (And.intro hR (And.intro (H3.out.2.1.below hb5 (Nat.le_refl _)) (And.intro hi5 hl5)))
  clear hR hi5 hb5 hl5 x3 c3 hB3'
  go_wp2_with (fail)
  refine (Doom_any w5 B1 w3.heap.size A1 (some ⟨g, 0, none⟩) n c n n ts s0 (h1.below hB5 hB1) (by omega) H5.out.2.1 hz35 (fun _ => ends_all Hv.out.1) (fun h => rends_all Hv.out.1 (nice_stated h))).mono ?_
  intro e w6 hd6
  obtain ⟨D, hD⟩ : ∃ D, D = doomR ts s0 := ⟨_, rfl⟩
  rw [← hD] at hd6
  obtain ⟨A6, k6, c6, rfl, -, hb6⟩ := hd6
  have hB6 := hB5.trans (hb6.mono hz5)
  have x6 := bxBelow x5 hb6 x5.lt
  have c6' := x6.cell
  have hz6 := hB6.size
  have hz36 : w3.heap.size ≤ w6.heap.size := by have := hb6.size; omega
  have H6 := Lib.hid (And.intro hD (And.intro (H5.out.2.1.below (hb6.mono hz35) (Nat.le_refl _)) (H5.out.2.2.1.below hb6 (Nat.le_refl _))))
  have hz56 := hb6.size
  clear hD hb6 x5 c5' hB5
  obtain ⟨p, hp, hp2, hp32⟩ := pow5 h1n h5n
  obtain ⟨q, hq⟩ : ∃ q : Nat, (q : Int) = given % (p : Int) := ⟨(given % (p : Int)).toNat, by have := Int.emod_nonneg given (show (p : Int) ≠ 0 by omega); omega⟩
  have hqp : q < p := by have := Int.emod_lt_of_pos given (show 0 < (p : Int) by omega); omega
  have htm1 : given.tmod (p : Int) = (q : Int) := by rw [Int.tmod_eq_emod_of_nonneg hgiven.1]; exact hq.symm
  have hwx : IntKind.i64.wrap given = given := by rw [IntKind.wrap_i64]; omega
  have hpi : (2 : Int) ^ n = (p : Int) := by rw [hp]; simp
  have hwp : IntKind.i64.wrap (2 ^ n) = (p : Int) := by rw [hpi, IntKind.wrap_i64]; omega
  have hlen := Hv.out.2.2
  have Hp := Lib.hid (And.intro hp (And.intro (show q < 2 ^ n by rw [← hp]; exact hqp) hlen))
  clear hp hq hpi hlen
  rcases wait_forms H3.out.1 with ⟨hw1, hw2, hw3⟩ | ⟨b, hb, hw1, hw2, hw3, hw4⟩
  · have hm0 : m5 = 0 := by rw [← H5.out.2.2.2, H5.out.1, hw1]; rfl
    have hR2 : R.2 = 17 := by rw [H5.out.1, hw1]
    have hD2 : D.2 = 0 := by rw [H6.out.1, hw3]
    have hgq := hw2 q (by rw [Hp.out.2.2]; exact Hp.out.2.1)
    have Hg := Lib.hid hgq
    clear hw1 hw2 hw3 hgq
    subst hm0
    rw [hR2, hD2]
    clear hR2 hD2
    go_wp2_with (fail)
    refine (lleads_any w6 B1 w3.heap.size A1 (some ⟨g, 0, none⟩) n c n ts s0 (h1.below hB6 hB1) (by omega) H6.out.2.1 hz36 H3.out.1 q Hp.out.2.1).mono ?_
    rintro e w7 ⟨rfl, hb7⟩
    rw [Hg.out]
    have hB7 := hB6.trans (hb7.mono hz6)
    go_wp2_with (fail)
    refine (Works_any _).mono ?_
    rintro e wz ⟨rfl, hbz⟩
    go_wp2_with (fail)
    go_ret
    exact ⟨rfl, hB7.trans (hbz.mono hB7.size)⟩
  have hm5l : (bitsL n b).length = m5 := by rw [← H5.out.2.2.2, H5.out.1, hw1, Hp.out.2.2]
  have hR2 : R.2 = 0 := by rw [H5.out.1, hw1]
  have hR1 : R.1 = bitsL n b := by rw [H5.out.1, hw1, Hp.out.2.2]
  have hbn : b < 2 ^ n := by rw [← Hp.out.2.2]; exact hb
  have hb32 : b < 32 := by have := Hp.out.1; omega
  have hm55 : m5 ≤ 5 := by rw [← hm5l]; exact Nat.le_trans (bitsL_len n b) h5n
  have hl6 := H6.out.2.2.more hz56
  rw [hR1] at hl6
  rw [hR2]
  have hD2 : (m5 = 0 ∧ D.2 = 5) ∨ (m5 ≠ 0 ∧ D.2 = 0) := by
    rw [H6.out.1]
    rw [Hp.out.2.2, hm5l] at hw4
    exact hw4
  have Hw := Lib.hid (And.intro hbn (And.intro hm5l (And.intro hw2 (And.intro hw3 (And.intro hl6 hD2)))))
  clear hw1 hw2 hw3 hw4 hb hm5l hR2 hR1 hbn hl6 hD2
  have hb66 : Below w6.heap.size w6 w6 := Below.refl _ _
  go_wp2_with (fail)
  go_loopg [13, 14] m5 (fun gg v13 v14 wr => ∃ j : Nat, (j ≤ m5 ∧ gg = m5 - j ∧ v14 = .int .i64 (j : Int)) ∧ v13 = .int .i64 ((sumP ((bitsL n b).take j) : Nat) : Int) ∧ Boxed wr w.heap.size 24 (.slice A1 n c) ∧ Below w.heap.size w wr ∧ Below w6.heap.size w6 wr)
  case atStart => exact ⟨0, ⟨Nat.zero_le _, rfl, rfl⟩, rfl, x6, hB6, hb66⟩
  case round =>
    clear x6 c6' hB6 hb66
    obtain ⟨j, ⟨hjm, rfl, rfl⟩, rfl, y0, hB, hb6r⟩ := hrel
    have c0 := y0.cell
    have hz := hB.size
    have hz6r := hb6r.size
    by_cases hj : j < m5
    · obtain ⟨b1, o1, rfl, hb1, hc1⟩ := (Hw.out.2.2.2.2.1.below hb6r (Nat.le_refl _)).cell hj
      have hjl : j < (bitsL n b).length := by rw [Hw.out.2.1]; exact hj
      obtain ⟨i, hi⟩ : ∃ i : Nat, (bitsL n b)[j]?.getD 0 = (i : Int) := ⟨((bitsL n b)[j]?.getD 0).toNat, by
        have := bitsL_in (n := n) (b := b) _ (List.getElem_mem hjl)
        rw [List.getElem?_eq_getElem hjl]
        simp only [Option.getD_some]
        omega⟩
      have hin : i < n := by
        have := bitsL_in (n := n) (b := b) _ (List.getElem_mem hjl)
        rw [List.getElem?_eq_getElem hjl] at hi
        simp only [Option.getD_some] at hi
        omega
      have hst2 := sum_take hjl
      have hsl := sum_le (bitsL n b) (j + 1)
      rw [sum_bits h5n Hw.out.1] at hsl
      rw [hi] at hst2 hc1
      simp only [Int.toNat_natCast] at hst2
      obtain ⟨pw, hpw⟩ : ∃ pw : Nat, pw = 2 ^ i := ⟨_, rfl⟩
      rw [← hpw] at hst2
      have hpwi : (2 : Int) ^ i = (pw : Int) := by rw [hpw]; simp
      obtain ⟨s, hs⟩ : ∃ s, s = sumP ((bitsL n b).take j) := ⟨_, rfl⟩
      obtain ⟨s', hs'⟩ : ∃ s', s' = sumP ((bitsL n b).take (j + 1)) := ⟨_, rfl⟩
      rw [← hs, ← hs'] at hst2
      rw [← hs'] at hsl
      rw [← hs]
      have hws : IntKind.i64.wrap ((s : Int) + (pw : Int)) = ((s' : Nat) : Int) := by rw [IntKind.wrap_i64]; omega
      have hwpw : IntKind.i64.wrap (2 ^ i) = (pw : Int) := by rw [hpwi, IntKind.wrap_i64]; omega
      have hwj : IntKind.i64.wrap ((j : Int) + 1) = (j : Int) + 1 := by rw [IntKind.wrap_i64]; omega
      have hisw : isWinF n (i : Int) = true := by simp [isWinF]; exact hin
      have Hi := Lib.hid (And.intro hi (And.intro hs' hisw))
      clear hi hs hs' hisw hst2 hsl hpw hpwi hjl
      have hcell : ∀ W, Below wr.heap.size wr.drew W → W.cell? ⟨b1, o1 + j, none⟩ = some (.int .i64 (i : Int)) := fun W hb => (hb.cell (p := ⟨b1, o1 + j, none⟩) (show b1 < wr.heap.size by omega)).trans hc1
      have hcell0 : ∀ W, Below wr.heap.size wr.drew W → W.cell? ⟨w.heap.size, 0, none⟩ = some (.slice A1 n c) := fun W hb => (hb.cell (p := ⟨w.heap.size, 0, none⟩) y0.lt).trans c0
      by_cases hj0 : j = 0
      · have hgt0 : ¬ (0 : Int) < (j : Int) := by omega
        have Hj0 := Lib.hid hj0
        clear hj0
        go_wp2_with (fail)
        refine region_held_wp 1 (fun W' => Below wr.heap.size wr.drew W') (fun _ => true) (by kernel_rfl) ?_
        intro KR hKR
        have hS : Below wr.heap.size wr.drew wr.drew := Below.refl _ _
        refine wpAnyHI_takeE (i := 1) (v := .slice (some ⟨b1, o1, none⟩) m5 c5) (some 76) rfl rfl (by kernel_rfl) (by kernel_rfl) (by kernel_rfl) (by kernel_rfl) (by kernel_rfl) (fun _ _ _ h => h) hS (.inl ⟨by kernel_rfl, fun W' hS' => ?_⟩) ?_
        · go_simp
        refine wpAnyHI_takeE (i := 2) (v := .int .i64 (j : Int)) (some 77) rfl rfl (by kernel_rfl) (by kernel_rfl) (by kernel_rfl) (by kernel_rfl) (by kernel_rfl) (fun _ _ _ h => h) hS (.inl ⟨by kernel_rfl, fun W' hS' => ?_⟩) ?_
        · go_simp
        refine wpAnyHI_takeE (i := 3) (v := .pointer (some ⟨b1, o1 + j, none⟩)) (some 78) rfl rfl (by kernel_rfl) (by kernel_rfl) (by kernel_rfl) (by kernel_rfl) (by kernel_rfl) (fun _ _ _ h => h) hS (.inl ⟨by kernel_rfl, fun W' hS' => ?_⟩) ?_
        · go_simp
        refine wpAnyHI_takeE (i := 0) (v := .agg #[.slice A1 n c]) (some 75) rfl rfl (by kernel_rfl) (by kernel_rfl) (by kernel_rfl) (by kernel_rfl) (by kernel_rfl) (fun _ _ _ h => h) hS (.inl ⟨by kernel_rfl, fun W' hS' => ?_⟩) ?_
        · have q := hcell0 W' hS'; go_simp
        refine wpAnyHI_takeE (i := 4) (v := .int .i64 (i : Int)) (some 79) rfl rfl (by kernel_rfl) (by kernel_rfl) (by kernel_rfl) (by kernel_rfl) (by kernel_rfl) (fun _ _ _ h => h) hS (.inl ⟨by kernel_rfl, fun W' hS' => ?_⟩) ?_
        · have q := hcell W' hS'; go_simp
        refine wpAnyHI_one (i := 5) rfl (by kernel_rfl) ?_
        intro K1 hK1
        go_simp
        refine ⟨trivial, (callsIn_wide.2 (isWindow_any _ A1 n c (i : Int))).mono ?_⟩
        rintro e w4 ⟨rfl, rfl⟩
        rw [Hi.out.2.2]
        have hS4 : Below wr.heap.size wr.drew (wr.drew.alloc (.cells #[.slice A1 n c] 24)) := (Below.refl wr.heap.size wr.drew).alloc (Nat.le_refl _) _
        refine hK1 _ _ ⟨fun _ => hS4, ?_⟩
        clear hK1 K1
        have hbr4 : Below wr.heap.size wr (wr.drew.alloc (.cells #[.slice A1 n c] 24)) := (below_drew wr).trans hS4
        have hB4 : Below w.heap.size w (wr.drew.alloc (.cells #[.slice A1 n c] 24)) := hB.trans (hbr4.mono hz)
        have hb64 : Below w6.heap.size w6 (wr.drew.alloc (.cells #[.slice A1 n c] 24)) := hb6r.trans (hbr4.mono hz6r)
        have y4 := bxBelow y0 hbr4 y0.lt
        have hc4 := hcell _ hS4
        refine wpAnyHI_takeE (i := 6) (v := .bool false) (some 81) rfl rfl (by kernel_rfl) (by kernel_rfl) (by kernel_rfl) (by kernel_rfl) (by kernel_rfl) (fun _ _ _ h => h) hS4 (.inl ⟨by kernel_rfl, fun W' hS' => ?_⟩) ?_
        · go_simp
        refine wpAnyHI_takeE (i := 7) (v := .bool false) (some 82) rfl rfl (by kernel_rfl) (by kernel_rfl) (by kernel_rfl) (by kernel_rfl) (by kernel_rfl) (fun _ _ _ h => h) hS4 (.inl ⟨by kernel_rfl, fun W' hS' => ?_⟩) ?_
        · go_simp
        refine wpAnyHI_takeE (i := 8) (v := .int .i64 (j : Int)) (some 83) rfl rfl (by kernel_rfl) (by kernel_rfl) (by kernel_rfl) (by kernel_rfl) (by kernel_rfl) (fun _ _ _ h => h) hS4 (.inl ⟨by kernel_rfl, fun W' hS' => ?_⟩) ?_
        · go_simp
        refine wpAnyHI_takeE (i := 9) (v := .bool false) (some 84) rfl rfl (by kernel_rfl) (by kernel_rfl) (by kernel_rfl) (by kernel_rfl) (by kernel_rfl) (fun _ _ _ h => h) hS4 (.inl ⟨by kernel_rfl, fun W' hS' => ?_⟩) ?_
        · go_simp; exact Hj0.out
        refine wpAnyHI_takeE (i := 10) (v := .bool false) (some 85) rfl rfl (by kernel_rfl) (by kernel_rfl) (by kernel_rfl) (by kernel_rfl) (by kernel_rfl) (fun _ _ _ h => h) hS4 (.inl ⟨by kernel_rfl, fun W' hS' => ?_⟩) ?_
        · go_simp
        refine wpAnyHI_takeE (i := 11) (v := undef) (some 86) rfl rfl (by kernel_rfl) (by kernel_rfl) (by kernel_rfl) (by kernel_rfl) (by kernel_rfl) (fun _ _ _ h => h) hS4 (.inr ⟨by kernel_rfl, rfl⟩) ?_
        refine wpAnyHI_takeE (i := 12) (v := undef) (some 87) rfl rfl (by kernel_rfl) (by kernel_rfl) (by kernel_rfl) (by kernel_rfl) (by kernel_rfl) (fun _ _ _ h => h) hS4 (.inr ⟨by kernel_rfl, rfl⟩) ?_
        refine wpAnyHI_takeE (i := 13) (v := undef) (some 88) rfl rfl (by kernel_rfl) (by kernel_rfl) (by kernel_rfl) (by kernel_rfl) (by kernel_rfl) (fun _ _ _ h => h) hS4 (.inr ⟨by kernel_rfl, rfl⟩) ?_
        refine wpAnyHI_takeE (i := 14) (v := undef) (some 89) rfl rfl (by kernel_rfl) (by kernel_rfl) (by kernel_rfl) (by kernel_rfl) (by kernel_rfl) (fun _ _ _ h => h) hS4 (.inr ⟨by kernel_rfl, rfl⟩) ?_
        refine wpAnyHI_takeE (i := 15) (v := undef) (some 90) rfl rfl (by kernel_rfl) (by kernel_rfl) (by kernel_rfl) (by kernel_rfl) (by kernel_rfl) (fun _ _ _ h => h) hS4 (.inr ⟨by kernel_rfl, rfl⟩) ?_
        refine wpAnyHI_takeE (i := 16) (v := undef) (some 91) rfl rfl (by kernel_rfl) (by kernel_rfl) (by kernel_rfl) (by kernel_rfl) (by kernel_rfl) (fun _ _ _ h => h) hS4 (.inr ⟨by kernel_rfl, rfl⟩) ?_
        refine wpAnyHI_takeE (i := 17) (v := undef) (some 92) rfl rfl (by kernel_rfl) (by kernel_rfl) (by kernel_rfl) (by kernel_rfl) (by kernel_rfl) (fun _ _ _ h => h) hS4 (.inr ⟨by kernel_rfl, rfl⟩) ?_
        refine wpAnyHI_takeE (i := 18) (v := undef) (some 93) rfl rfl (by kernel_rfl) (by kernel_rfl) (by kernel_rfl) (by kernel_rfl) (by kernel_rfl) (fun _ _ _ h => h) hS4 (.inr ⟨by kernel_rfl, rfl⟩) ?_
        refine wpAnyHI_takeE (i := 19) (v := undef) (some 94) rfl rfl (by kernel_rfl) (by kernel_rfl) (by kernel_rfl) (by kernel_rfl) (by kernel_rfl) (fun _ _ _ h => h) hS4 (.inr ⟨by kernel_rfl, rfl⟩) ?_
        refine wpAnyHI_takeE (i := 20) (v := undef) (some 95) rfl rfl (by kernel_rfl) (by kernel_rfl) (by kernel_rfl) (by kernel_rfl) (by kernel_rfl) (fun _ _ _ h => h) hS4 (.inr ⟨by kernel_rfl, rfl⟩) ?_
        refine wpAnyHI_takeE (i := 21) (v := .bool false) (some 96) rfl rfl (by kernel_rfl) (by kernel_rfl) (by kernel_rfl) (by kernel_rfl) (by kernel_rfl) (fun _ _ _ h => h) hS4 (.inl ⟨by kernel_rfl, fun W' hS' => ?_⟩) ?_
        · go_simp
        refine wpAnyHI_takeE (i := 22) (v := .bool false) (some 97) rfl rfl (by kernel_rfl) (by kernel_rfl) (by kernel_rfl) (by kernel_rfl) (by kernel_rfl) (fun _ _ _ h => h) hS4 (.inl ⟨by kernel_rfl, fun W' hS' => ?_⟩) ?_
        · go_simp
        refine wpAnyHI_end (by kernel_rfl) ?_
        show KR _ _
        go_simp
        refine hKR _ _ ?_
        clear hKR KR hS
        have hB4 : Below w.heap.size w (wr.alloc (.cells #[.slice A1 n c] 24)).drew := hB4
        have hb64 : Below w6.heap.size w6 (wr.alloc (.cells #[.slice A1 n c] 24)).drew := hb64
        have y4 : Boxed (wr.alloc (.cells #[.slice A1 n c] 24)).drew w.heap.size 24 (.slice A1 n c) := y4
        have hc4 : (wr.alloc (.cells #[.slice A1 n c] 24)).drew.cell? ⟨b1, o1 + j, none⟩ = some (.int .i64 (i : Int)) := hc4
        obtain ⟨w4, hw4⟩ : ∃ w4, w4 = (wr.alloc (.cells #[.slice A1 n c] 24)).drew := ⟨_, rfl⟩
        rw [← hw4] at hB4 hb64 y4 hc4 ⊢
        clear hw4 hcell hcell0 y0 hB hb6r hS4 hbr4
        go_wp2_with (fail)
        go_roundg (m5 - (j + 1))
        case measure => omega
        case rel => exact ⟨j + 1, ⟨hj, rfl, rfl⟩, by rw [← Hi.out.2.1], y4, hB4, hb64⟩
      · obtain ⟨i', rfl⟩ : ∃ i', j = i' + 1 := ⟨j - 1, by omega⟩
        clear hj0
        have hgt0 : (0 : Int) < ((i' + 1 : Nat) : Int) := by omega
        have hnn : ¬ (i' : Int) + 1 < 0 := by omega
        have hwi : IntKind.i64.wrap (i' : Int) = (i' : Int) := by rw [IntKind.wrap_i64]; omega
        have hki : ¬ m5 ≤ i' := by omega
        obtain ⟨b2, o2, hA2, -, hci⟩ := (Hw.out.2.2.2.2.1.below hb6r (Nat.le_refl _)).cell (k := i') (by omega)
        cases hA2
        obtain ⟨pi, hpi⟩ : ∃ pi, pi = (bitsL n b)[i']?.getD 0 := ⟨_, rfl⟩
        rw [← hpi] at hci
        have hlt := bitsL_incr n b i' (i' + 1) (by omega) (by rw [Hw.out.2.1]; exact hj)
        rw [← hpi, Hi.out.1] at hlt
        have hle : ¬ (i : Int) ≤ pi := by omega
        clear hpi hlt
        have hcelli : ∀ W, Below wr.heap.size wr.drew W → W.cell? ⟨b1, o1 + i', none⟩ = some (.int .i64 pi) := fun W hb => (hb.cell (p := ⟨b1, o1 + i', none⟩) (show b1 < wr.heap.size by omega)).trans hci
        have hw1 : IntKind.i64.wrap (((i' + 1 : Nat) : Int) - 1) = (i' : Int) := by rw [IntKind.wrap_i64]; omega
        have hw2 : ((i' + 1 : Nat) : Int) - 1 = (i' : Int) := by omega
        go_wp2_with (fail)
        refine region_held_wp 1 (fun W' => Below wr.heap.size wr.drew W') (fun _ => true) (by kernel_rfl) ?_
        intro KR hKR
        have hS : Below wr.heap.size wr.drew wr.drew := Below.refl _ _
        refine wpAnyHI_takeE (i := 1) (v := .slice (some ⟨b1, o1, none⟩) m5 c5) (some 76) rfl rfl (by kernel_rfl) (by kernel_rfl) (by kernel_rfl) (by kernel_rfl) (by kernel_rfl) (fun _ _ _ h => h) hS (.inl ⟨by kernel_rfl, fun W' hS' => ?_⟩) ?_
        · go_simp
        refine wpAnyHI_takeE (i := 2) (v := .int .i64 ((i' + 1 : Nat) : Int)) (some 77) rfl rfl (by kernel_rfl) (by kernel_rfl) (by kernel_rfl) (by kernel_rfl) (by kernel_rfl) (fun _ _ _ h => h) hS (.inl ⟨by kernel_rfl, fun W' hS' => ?_⟩) ?_
        · go_simp
        refine wpAnyHI_takeE (i := 3) (v := .pointer (some ⟨b1, o1 + (i' + 1), none⟩)) (some 78) rfl rfl (by kernel_rfl) (by kernel_rfl) (by kernel_rfl) (by kernel_rfl) (by kernel_rfl) (fun _ _ _ h => h) hS (.inl ⟨by kernel_rfl, fun W' hS' => ?_⟩) ?_
        · go_simp
        refine wpAnyHI_takeE (i := 0) (v := .agg #[.slice A1 n c]) (some 75) rfl rfl (by kernel_rfl) (by kernel_rfl) (by kernel_rfl) (by kernel_rfl) (by kernel_rfl) (fun _ _ _ h => h) hS (.inl ⟨by kernel_rfl, fun W' hS' => ?_⟩) ?_
        · have q := hcell0 W' hS'; go_simp
        refine wpAnyHI_takeE (i := 4) (v := .int .i64 (i : Int)) (some 79) rfl rfl (by kernel_rfl) (by kernel_rfl) (by kernel_rfl) (by kernel_rfl) (by kernel_rfl) (fun _ _ _ h => h) hS (.inl ⟨by kernel_rfl, fun W' hS' => ?_⟩) ?_
        · have q := hcell W' hS'; go_simp
        refine wpAnyHI_one (i := 5) rfl (by kernel_rfl) ?_
        intro K1 hK1
        go_simp
        refine ⟨trivial, (callsIn_wide.2 (isWindow_any _ A1 n c (i : Int))).mono ?_⟩
        rintro e w4 ⟨rfl, rfl⟩
        rw [Hi.out.2.2]
        have hS4 : Below wr.heap.size wr.drew (wr.drew.alloc (.cells #[.slice A1 n c] 24)) := (Below.refl wr.heap.size wr.drew).alloc (Nat.le_refl _) _
        refine hK1 _ _ ⟨fun _ => hS4, ?_⟩
        clear hK1 K1
        have hbr4 : Below wr.heap.size wr (wr.drew.alloc (.cells #[.slice A1 n c] 24)) := (below_drew wr).trans hS4
        have hB4 : Below w.heap.size w (wr.drew.alloc (.cells #[.slice A1 n c] 24)) := hB.trans (hbr4.mono hz)
        have hb64 : Below w6.heap.size w6 (wr.drew.alloc (.cells #[.slice A1 n c] 24)) := hb6r.trans (hbr4.mono hz6r)
        have y4 := bxBelow y0 hbr4 y0.lt
        have hc4 := hcell _ hS4
        refine wpAnyHI_takeE (i := 6) (v := .bool false) (some 81) rfl rfl (by kernel_rfl) (by kernel_rfl) (by kernel_rfl) (by kernel_rfl) (by kernel_rfl) (fun _ _ _ h => h) hS4 (.inl ⟨by kernel_rfl, fun W' hS' => ?_⟩) ?_
        · go_simp
        refine wpAnyHI_takeE (i := 7) (v := .bool false) (some 82) rfl rfl (by kernel_rfl) (by kernel_rfl) (by kernel_rfl) (by kernel_rfl) (by kernel_rfl) (fun _ _ _ h => h) hS4 (.inl ⟨by kernel_rfl, fun W' hS' => ?_⟩) ?_
        · go_simp
        refine wpAnyHI_takeE (i := 8) (v := .int .i64 ((i' + 1 : Nat) : Int)) (some 83) rfl rfl (by kernel_rfl) (by kernel_rfl) (by kernel_rfl) (by kernel_rfl) (by kernel_rfl) (fun _ _ _ h => h) hS4 (.inl ⟨by kernel_rfl, fun W' hS' => ?_⟩) ?_
        · go_simp
        refine wpAnyHI_takeE (i := 9) (v := .bool true) (some 84) rfl rfl (by kernel_rfl) (by kernel_rfl) (by kernel_rfl) (by kernel_rfl) (by kernel_rfl) (fun _ _ _ h => h) hS4 (.inl ⟨by kernel_rfl, fun W' hS' => ?_⟩) ?_
        · go_simp
        refine wpAnyHI_takeE (i := 10) (v := .bool true) (some 85) rfl rfl (by kernel_rfl) (by kernel_rfl) (by kernel_rfl) (by kernel_rfl) (by kernel_rfl) (fun _ _ _ h => h) hS4 (.inl ⟨by kernel_rfl, fun W' hS' => ?_⟩) ?_
        · go_simp
        refine wpAnyHI_takeE (i := 11) (v := .slice (some ⟨b1, o1, none⟩) m5 c5) (some 86) rfl rfl (by kernel_rfl) (by kernel_rfl) (by kernel_rfl) (by kernel_rfl) (by kernel_rfl) (fun _ _ _ h => h) hS4 (.inl ⟨by kernel_rfl, fun W' hS' => ?_⟩) ?_
        · go_simp
        refine wpAnyHI_takeE (i := 12) (v := .int .i64 ((i' + 1 : Nat) : Int)) (some 87) rfl rfl (by kernel_rfl) (by kernel_rfl) (by kernel_rfl) (by kernel_rfl) (by kernel_rfl) (fun _ _ _ h => h) hS4 (.inl ⟨by kernel_rfl, fun W' hS' => ?_⟩) ?_
        · go_simp
        refine wpAnyHI_takeE (i := 13) (v := .pointer (some ⟨b1, o1 + (i' + 1), none⟩)) (some 88) rfl rfl (by kernel_rfl) (by kernel_rfl) (by kernel_rfl) (by kernel_rfl) (by kernel_rfl) (fun _ _ _ h => h) hS4 (.inl ⟨by kernel_rfl, fun W' hS' => ?_⟩) ?_
        · go_simp
        refine wpAnyHI_takeE (i := 14) (v := .int .i64 (i : Int)) (some 89) rfl rfl (by kernel_rfl) (by kernel_rfl) (by kernel_rfl) (by kernel_rfl) (by kernel_rfl) (fun _ _ _ h => h) hS4 (.inl ⟨by kernel_rfl, fun W' hS' => ?_⟩) ?_
        · have q := hcell W' hS'; go_simp
        refine wpAnyHI_takeE (i := 15) (v := .slice (some ⟨b1, o1, none⟩) m5 c5) (some 90) rfl rfl (by kernel_rfl) (by kernel_rfl) (by kernel_rfl) (by kernel_rfl) (by kernel_rfl) (fun _ _ _ h => h) hS4 (.inl ⟨by kernel_rfl, fun W' hS' => ?_⟩) ?_
        · go_simp
        refine wpAnyHI_takeE (i := 16) (v := .int .i64 ((i' + 1 : Nat) : Int)) (some 91) rfl rfl (by kernel_rfl) (by kernel_rfl) (by kernel_rfl) (by kernel_rfl) (by kernel_rfl) (fun _ _ _ h => h) hS4 (.inl ⟨by kernel_rfl, fun W' hS' => ?_⟩) ?_
        · go_simp
        refine wpAnyHI_takeE (i := 17) (v := .int .i64 (i' : Int)) (some 92) rfl rfl (by kernel_rfl) (by kernel_rfl) (by kernel_rfl) (by kernel_rfl) (by kernel_rfl) (fun _ _ _ h => h) hS4 (.inl ⟨by kernel_rfl, fun W' hS' => ?_⟩) ?_
        · go_simp
        refine wpAnyHI_takeE (i := 18) (v := .pointer (some ⟨b1, o1 + i', none⟩)) (some 93) rfl rfl (by kernel_rfl) (by kernel_rfl) (by kernel_rfl) (by kernel_rfl) (by kernel_rfl) (fun _ _ _ h => h) hS4 (.inl ⟨by kernel_rfl, fun W' hS' => ?_⟩) ?_
        · go_simp
        refine wpAnyHI_takeE (i := 19) (v := .int .i64 pi) (some 94) rfl rfl (by kernel_rfl) (by kernel_rfl) (by kernel_rfl) (by kernel_rfl) (by kernel_rfl) (fun _ _ _ h => h) hS4 (.inl ⟨by kernel_rfl, fun W' hS' => ?_⟩) ?_
        · have q := hcelli W' hS'; go_simp
        refine wpAnyHI_takeE (i := 20) (v := .bool false) (some 95) rfl rfl (by kernel_rfl) (by kernel_rfl) (by kernel_rfl) (by kernel_rfl) (by kernel_rfl) (fun _ _ _ h => h) hS4 (.inl ⟨by kernel_rfl, fun W' hS' => ?_⟩) ?_
        · go_simp
        refine wpAnyHI_takeE (i := 21) (v := .bool false) (some 96) rfl rfl (by kernel_rfl) (by kernel_rfl) (by kernel_rfl) (by kernel_rfl) (by kernel_rfl) (fun _ _ _ h => h) hS4 (.inl ⟨by kernel_rfl, fun W' hS' => ?_⟩) ?_
        · go_simp
        refine wpAnyHI_takeE (i := 22) (v := .bool false) (some 97) rfl rfl (by kernel_rfl) (by kernel_rfl) (by kernel_rfl) (by kernel_rfl) (by kernel_rfl) (fun _ _ _ h => h) hS4 (.inl ⟨by kernel_rfl, fun W' hS' => ?_⟩) ?_
        · go_simp
        refine wpAnyHI_end (by kernel_rfl) ?_
        show KR _ _
        go_simp
        refine hKR _ _ ?_
        clear hKR KR hS
        have hB4 : Below w.heap.size w (wr.alloc (.cells #[.slice A1 n c] 24)).drew := hB4
        have hb64 : Below w6.heap.size w6 (wr.alloc (.cells #[.slice A1 n c] 24)).drew := hb64
        have y4 : Boxed (wr.alloc (.cells #[.slice A1 n c] 24)).drew w.heap.size 24 (.slice A1 n c) := y4
        have hc4 : (wr.alloc (.cells #[.slice A1 n c] 24)).drew.cell? ⟨b1, o1 + (i' + 1), none⟩ = some (.int .i64 (i : Int)) := hc4
        obtain ⟨w4, hw4⟩ : ∃ w4, w4 = (wr.alloc (.cells #[.slice A1 n c] 24)).drew := ⟨_, rfl⟩
        rw [← hw4] at hB4 hb64 y4 hc4 ⊢
        clear hw4 hcell hcell0 y0 hB hb6r hS4 hbr4
        go_wp2_with (fail)
        go_roundg (m5 - ((i' + 1) + 1))
        case measure => omega
        case rel => exact ⟨(i' + 1) + 1, ⟨hj, rfl, rfl⟩, by rw [← Hi.out.2.1], y4, hB4, hb64⟩
    · obtain rfl : j = m5 := by omega
      have hnj : ¬ (j : Int) < (j : Int) := by omega
      have hsb : sumP ((bitsL n b).take j) = b := by rw [List.take_of_length_le (by rw [Hw.out.2.1]; exact Nat.le_refl _), sum_bits h5n Hw.out.1]
      rw [hsb]
      clear hsb
      have hz36r : w3.heap.size ≤ wr.heap.size := by omega
      have hs0r := H6.out.2.1.below (hb6r.mono hz36) (Nat.le_refl _)
      have hlr := Hw.out.2.2.2.2.1.below hb6r (Nat.le_refl _)
      have Hr := Lib.hid (And.intro hs0r hlr)
      clear hs0r hlr
      go_wp2_with (fail)
      refine (lleads_any wr B1 w3.heap.size A1 (some ⟨g, 0, none⟩) n c n ts s0 (h1.below hB hB1) (by omega) Hr.out.1 hz36r H3.out.1 b Hw.out.1).mono ?_
      rintro e w7 ⟨rfl, hb7⟩
      rw [Hw.out.2.2.1]
      have hB7 := hB.trans (hb7.mono hz)
      have x7 := bxBelow y0 hb7 y0.lt
      have c7' := x7.cell
      have hz7 := hB7.size
      have hz67 : w6.heap.size ≤ w7.heap.size := by have := hb7.size; omega
      have hz37 : w3.heap.size ≤ w7.heap.size := by omega
      have H7 := Lib.hid (And.intro (Hr.out.1.below (hb7.mono hz36r) (Nat.le_refl _)) (Hr.out.2.below (hb7.mono hz6r) (Nat.le_refl _)))
      clear hb7 y0 c0 hB hb6r
      have hcase : ((j : Int) = 0 ∧ D.2 = 5) ∨ (¬ (j : Int) = 0 ∧ D.2 = 0) := by
        rcases Hw.out.2.2.2.2.2 with ⟨h, h'⟩ | ⟨h, h'⟩
        · exact .inl ⟨by omega, h'⟩
        · exact .inr ⟨by omega, h'⟩
      rcases hcase with ⟨hj0, hD5⟩ | ⟨hj0, hD5⟩
      · have hj0b : ((j : Int) == 0) = true := by simp; omega
        clear hj0
        rw [hD5]
        go_wp2_with (fail)
        refine (BitsX_any _ q n Hp.out.2.1 h5n).mono ?_
        rintro e w8 ⟨v8, rfl, hr8, hb8⟩
        obtain ⟨A8, m8, c8, rfl, hi8⟩ := ListAt.of_row hr8 (by have := bitsL_len n q; omega)
        have hm8' := hi8.len
        have hm85 : m8 ≤ 5 := by have := bitsL_len n q; omega
        have hB8 := hB7.trans (hb8.mono hz7)
        have x8 := bxBelow x7 hb8 x7.lt
        have c8' := x8.cell
        have hz8 := hB8.size
        have hz78 := hb8.size
        have hz68 : w6.heap.size ≤ w8.heap.size := by omega
        have hz38 : w3.heap.size ≤ w8.heap.size := by omega
        have H8 := Lib.hid (And.intro (H7.out.1.below (hb8.mono hz37) (Nat.le_refl _)) (And.intro (H7.out.2.below (hb8.mono hz67) (Nat.le_refl _)) (And.intro hi8 hm8')))
        clear hb8 hi8 hr8 hm8' x7 c7' hB7
        by_cases hA : (m8 : Int) < (j : Int)
        · have hgq : goodB ts s0 q = false := wait_fewer Hw.out.2.2.2.1 (by rw [Hp.out.2.2]; exact Hp.out.2.1) (.inl (by rw [Hp.out.2.2, H8.out.2.2.2, Hw.out.2.1]; omega))
          have Hg := Lib.hid hgq
          clear hgq
          go_wp2_with (fail)
          refine (lleads_any w8 B1 w3.heap.size A1 (some ⟨g, 0, none⟩) n c n ts s0 (h1.below hB8 hB1) (by omega) H8.out.1 hz38 H3.out.1 q Hp.out.2.1).mono ?_
          rintro e w9 ⟨rfl, hb9⟩
          rw [Hg.out]
          have hB9 := hB8.trans (hb9.mono hz8)
          go_wp2_with (fail)
          refine (Works_any _).mono ?_
          rintro e wz ⟨rfl, hbz⟩
          go_wp2_with (fail)
          go_ret
          exact ⟨rfl, hB9.trans (hbz.mono hB9.size)⟩
        by_cases hE : (m8 : Int) = (j : Int)
        case neg =>
          have hEb : ((m8 : Int) == (j : Int)) = false := by simp; omega
          go_wp2_with (fail)
          refine (Works_any _).mono ?_
          rintro e wz ⟨rfl, hbz⟩
          go_wp2_with (fail)
          go_ret
          exact ⟨rfl, hB8.trans (hbz.mono hB8.size)⟩
        by_cases hqb : (q : Int) = (b : Int)
        · have hqbb : ((q : Int) != (b : Int)) = false := by simp; omega
          go_wp2_with (fail)
          refine (Works_any _).mono ?_
          rintro e wz ⟨rfl, hbz⟩
          go_wp2_with (fail)
          go_ret
          exact ⟨rfl, hB8.trans (hbz.mono hB8.size)⟩
        have hqbb : ((q : Int) != (b : Int)) = true := by simp; omega
        have hmj : m8 = j := by omega
        subst hmj
        go_wp2_with (fail)
        refine (first_lists_any w8 w8.heap.size w6.heap.size A8 A5 m8 c8 m8 c5 (bitsL n q) (bitsL n b) H8.out.2.2.1 (Nat.le_refl _) H8.out.2.1 hz68 rfl).mono ?_
        rintro e w9 ⟨rfl, hb9⟩
        have hB9 := hB8.trans (hb9.mono hz8)
        have x9 := bxBelow x8 hb9 x8.lt
        have c9' := x9.cell
        have hz9 := hB9.size
        have hz39 : w3.heap.size ≤ w9.heap.size := by have := hb9.size; omega
        have H9 := Lib.hid (H8.out.1.below (hb9.mono hz38) (Nat.le_refl _))
        clear hb9 x8 c8' hB8
        obtain ⟨f, hf⟩ : ∃ f, f = firstF (bitsL n q) (bitsL n b) := ⟨_, rfl⟩
        rw [← hf]
        cases f with
        | false =>
          clear hf
          go_wp2_with (fail)
          refine (Works_any _).mono ?_
          rintro e wz ⟨rfl, hbz⟩
          go_wp2_with (fail)
          go_ret
          exact ⟨rfl, hB9.trans (hbz.mono hB9.size)⟩
        | true =>
          have hgq : goodB ts s0 q = false := wait_fewer Hw.out.2.2.2.1 (by rw [Hp.out.2.2]; exact Hp.out.2.1) (.inr ⟨by rw [Hp.out.2.2, H8.out.2.2.2, Hw.out.2.1], by rw [Hp.out.2.2]; exact hf.symm⟩)
          have Hg := Lib.hid hgq
          clear hgq hf
          go_wp2_with (fail)
          refine (lleads_any w9 B1 w3.heap.size A1 (some ⟨g, 0, none⟩) n c n ts s0 (h1.below hB9 hB1) (by omega) H9.out hz39 H3.out.1 q Hp.out.2.1).mono ?_
          rintro e w10 ⟨rfl, hb10⟩
          rw [Hg.out]
          have hB10 := hB9.trans (hb10.mono hz9)
          go_wp2_with (fail)
          refine (Works_any _).mono ?_
          rintro e wz ⟨rfl, hbz⟩
          go_wp2_with (fail)
          go_ret
          exact ⟨rfl, hB10.trans (hbz.mono hB10.size)⟩
      · have hj0b : ((j : Int) == 0) = false := by simp; omega
        rw [hD5]
        go_wp2_with (fail)
        refine (BitsX_any _ q n Hp.out.2.1 h5n).mono ?_
        rintro e w8 ⟨v8, rfl, hr8, hb8⟩
        obtain ⟨A8, m8, c8, rfl, hi8⟩ := ListAt.of_row hr8 (by have := bitsL_len n q; omega)
        have hm8' := hi8.len
        have hm85 : m8 ≤ 5 := by have := bitsL_len n q; omega
        have hB8 := hB7.trans (hb8.mono hz7)
        have x8 := bxBelow x7 hb8 x7.lt
        have c8' := x8.cell
        have hz8 := hB8.size
        have hz78 := hb8.size
        have hz68 : w6.heap.size ≤ w8.heap.size := by omega
        have hz38 : w3.heap.size ≤ w8.heap.size := by omega
        have H8 := Lib.hid (And.intro (H7.out.1.below (hb8.mono hz37) (Nat.le_refl _)) (And.intro (H7.out.2.below (hb8.mono hz67) (Nat.le_refl _)) (And.intro hi8 hm8')))
        clear hb8 hi8 hr8 hm8' x7 c7' hB7
        by_cases hA : (m8 : Int) < (j : Int)
        · have hgq : goodB ts s0 q = false := wait_fewer Hw.out.2.2.2.1 (by rw [Hp.out.2.2]; exact Hp.out.2.1) (.inl (by rw [Hp.out.2.2, H8.out.2.2.2, Hw.out.2.1]; omega))
          have Hg := Lib.hid hgq
          clear hgq
          go_wp2_with (fail)
          refine (lleads_any w8 B1 w3.heap.size A1 (some ⟨g, 0, none⟩) n c n ts s0 (h1.below hB8 hB1) (by omega) H8.out.1 hz38 H3.out.1 q Hp.out.2.1).mono ?_
          rintro e w9 ⟨rfl, hb9⟩
          rw [Hg.out]
          have hB9 := hB8.trans (hb9.mono hz8)
          go_wp2_with (fail)
          refine (Works_any _).mono ?_
          rintro e wz ⟨rfl, hbz⟩
          go_wp2_with (fail)
          go_ret
          exact ⟨rfl, hB9.trans (hbz.mono hB9.size)⟩
        by_cases hE : (m8 : Int) = (j : Int)
        case neg =>
          have hEb : ((m8 : Int) == (j : Int)) = false := by simp; omega
          go_wp2_with (fail)
          refine (Works_any _).mono ?_
          rintro e wz ⟨rfl, hbz⟩
          go_wp2_with (fail)
          go_ret
          exact ⟨rfl, hB8.trans (hbz.mono hB8.size)⟩
        by_cases hqb : (q : Int) = (b : Int)
        · have hqbb : ((q : Int) != (b : Int)) = false := by simp; omega
          go_wp2_with (fail)
          refine (Works_any _).mono ?_
          rintro e wz ⟨rfl, hbz⟩
          go_wp2_with (fail)
          go_ret
          exact ⟨rfl, hB8.trans (hbz.mono hB8.size)⟩
        have hqbb : ((q : Int) != (b : Int)) = true := by simp; omega
        have hmj : m8 = j := by omega
        subst hmj
        go_wp2_with (fail)
        refine (first_lists_any w8 w8.heap.size w6.heap.size A8 A5 m8 c8 m8 c5 (bitsL n q) (bitsL n b) H8.out.2.2.1 (Nat.le_refl _) H8.out.2.1 hz68 rfl).mono ?_
        rintro e w9 ⟨rfl, hb9⟩
        have hB9 := hB8.trans (hb9.mono hz8)
        have x9 := bxBelow x8 hb9 x8.lt
        have c9' := x9.cell
        have hz9 := hB9.size
        have hz39 : w3.heap.size ≤ w9.heap.size := by have := hb9.size; omega
        have H9 := Lib.hid (H8.out.1.below (hb9.mono hz38) (Nat.le_refl _))
        clear hb9 x8 c8' hB8
        obtain ⟨f, hf⟩ : ∃ f, f = firstF (bitsL n q) (bitsL n b) := ⟨_, rfl⟩
        rw [← hf]
        cases f with
        | false =>
          clear hf
          go_wp2_with (fail)
          refine (Works_any _).mono ?_
          rintro e wz ⟨rfl, hbz⟩
          go_wp2_with (fail)
          go_ret
          exact ⟨rfl, hB9.trans (hbz.mono hB9.size)⟩
        | true =>
          have hgq : goodB ts s0 q = false := wait_fewer Hw.out.2.2.2.1 (by rw [Hp.out.2.2]; exact Hp.out.2.1) (.inr ⟨by rw [Hp.out.2.2, H8.out.2.2.2, Hw.out.2.1], by rw [Hp.out.2.2]; exact hf.symm⟩)
          have Hg := Lib.hid hgq
          clear hgq hf
          go_wp2_with (fail)
          refine (lleads_any w9 B1 w3.heap.size A1 (some ⟨g, 0, none⟩) n c n ts s0 (h1.below hB9 hB1) (by omega) H9.out hz39 H3.out.1 q Hp.out.2.1).mono ?_
          rintro e w10 ⟨rfl, hb10⟩
          rw [Hg.out]
          have hB10 := hB9.trans (hb10.mono hz9)
          go_wp2_with (fail)
          refine (Works_any _).mono ?_
          rintro e wz ⟨rfl, hbz⟩
          go_wp2_with (fail)
          go_ret
          exact ⟨rfl, hB10.trans (hbz.mono hB10.size)⟩
end Go.Proofs.YthjgecblkagelaaGreat
