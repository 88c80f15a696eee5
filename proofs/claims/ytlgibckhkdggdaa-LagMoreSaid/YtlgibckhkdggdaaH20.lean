/- Parts of a proof: TD TE. -/
import Derived.Test.YtlgibckhkdggdaaH19

/- lag: two rows that grow side by side; parts of rows; LagBroken. -/
namespace Go.Proofs.Ytlgibckhkdggdaa
open Go.RowKit Go.Shelf

attribute [local go_sem] Oper.semAt_some

/-! ### two rows of the call's own -/
def Apart (a b : Option Nat) : Prop := a = none ∨ a ≠ b
theorem Apart.symm {a b : Option Nat} (h : Apart a b) : Apart b a := by
  rcases h with rfl | h
  · cases b with
    | none => exact .inl rfl
    | some b => exact .inr (by simp)
  · exact .inr fun e => h e.symm
theorem Apart.grow {a a' b : Option Nat} {n : Nat} (h : Apart a b) (hat : a' = a ∨ a' = some n) (hb : ∀ k, b = some k → k < n) : Apart a' b := by
  rcases hat with rfl | rfl
  · exact h
  · refine .inr fun e => ?_
    have := hb n e.symm
    omega
theorem IntsAt.take {w : World} {B : Nat} {A : Option Addr} {n : Nat} {xs : List Int} (h : IntsAt w B A n xs) {k : Nat} (hk : k ≤ n) : IntsAt w B A k (xs.take k) := by
  refine ⟨by rw [List.length_take, h.1]; omega, by have := h.2.1; omega, fun h0 => ?_⟩
  obtain ⟨b, off, e, hb, hc⟩ := h.2.2 (by omega)
  refine ⟨b, off, e, hb, fun j hj => ?_⟩
  rw [hc j (by omega), List.getElem?_take, if_pos hj]
theorem preS_take (xs : List Int) (k : Nat) : ∀ j, j ≤ k → preS (xs.take k) j = preS xs j
  | 0, _ => rfl
  | j + 1, h => by rw [preS, preS, preS_take xs k j (by omega), List.getElem?_take, if_pos (by omega)]
set_option maxHeartbeats 1000000 in
theorem last_any (w : World) (B : Nat) (A : Option Addr) (n c : Nat) (xs : List Int) (hx : IntsAt w B A n xs) (hB : B ≤ w.heap.size) (hn : n ≤ 1000) (hbd : ∀ j, j ≤ n → -1000000000000 ≤ preS xs j ∧ preS xs j ≤ 1000000000000) :
    Calls Try.prog 53 #[.slice A n c] w fun e w' => e = .returned (.int .i64 (preS xs n)) ∧ Below w.heap.size w w' := by
  go_enter Try.func53, Try.ntmps53
  go_wp2_with (fail)
  refine (rSums_any w B A n c xs hx hB hn hbd).mono ?_
  rintro e w2 ⟨v, rfl, hs, hb⟩
  obtain ⟨A2, c2, rfl, -, i2⟩ := OwnZ.row hs (by rw [preL_len]; omega)
  rw [preL_len] at i2 ⊢
  obtain ⟨N, hN⟩ : ∃ N, N = n + 1 := ⟨_, rfl⟩
  rw [← hN] at i2 ⊢
  obtain ⟨b2, o2, rfl, -, c1⟩ := i2.cell (k := n) (by omega)
  rw [preL_get (Nat.le_refl _)] at c1
  obtain ⟨y, hy⟩ : ∃ y, y = preS xs n := ⟨_, rfl⟩
  rw [← hy] at c1
  have hnN : n < N := by omega
  have Hy := Lib.hid hy
  have hw : IntKind.i64.wrap ((N : Int) - 1) = (n : Int) := by rw [IntKind.wrap_i64]; omega
  clear hN hs i2 hy hbd
  go_wp2_with (fail)
  go_ret
  exact ⟨ret_int (by rw [Hy.out]), hb⟩
/-! ### where a row breaks -/
theorem brkN_spec {xs most : List Int} : ∀ {m k f l : Nat}, brkN xs most k m = some (f, l) → k ≤ f ∧ f < k + m ∧ brkAt xs most f = some l ∧ ∀ i, k ≤ i → i < f → brkAt xs most i = none
  | 0, k, f, l, h => by simp [brkN] at h
  | m + 1, k, f, l, h => by
    cases hb : brkAt xs most k with
    | some l' =>
      simp [brkN, hb] at h
      obtain ⟨rfl, rfl⟩ := h
      exact ⟨Nat.le_refl _, by omega, hb, fun i a b => by omega⟩
    | none =>
      simp [brkN, hb] at h
      obtain ⟨a1, a2, a3, a4⟩ := brkN_spec h
      refine ⟨by omega, by omega, a3, fun i h1 h2 => ?_⟩
      by_cases hi : i = k
      · subst hi
        exact hb
      · exact a4 i (by omega) h2
theorem brkAt_spec {xs most : List Int} {k l : Nat} (h : brkAt xs most k = some l) : l ≤ xs.length ∧ (most[l]?.getD 0 < if l ≤ xs.length - k then preS xs (k + l) - preS xs k else 0) ∧ ∀ j, j < l → ¬ most[j]?.getD 0 < if j ≤ xs.length - k then preS xs (k + j) - preS xs k else 0 := by
  unfold brkAt overAt at h
  rw [List.find?_range_eq_some] at h
  obtain ⟨h1, h2, h3⟩ := h
  have hl : l < xs.length + 1 := List.mem_range.1 h2
  have h1' := of_decide_eq_true h1
  rw [brkAt_get hl] at h1'
  refine ⟨by omega, h1', fun j hj => ?_⟩
  have := h3 j hj
  rw [brkAt_get (by omega)] at this
  simpa using this
theorem brkAt_no {xs most : List Int} {k : Nat} (h : brkAt xs most k = none) {j : Nat} (hj : j ≤ xs.length - k) : preS xs (k + j) - preS xs k ≤ most[j]?.getD 0 := by
  unfold brkAt overAt at h
  rw [List.find?_range_eq_none] at h
  have := h j (by omega)
  rw [brkAt_get (by omega), if_pos hj] at this
  simpa using this
/-- What Break says of right rows. -/
theorem breakR_cases {cs xs : List Int} (hc : curveF cs = 0) (hr : rowF xs = 0) :
    (breakR cs xs = (0, 0, 5) ∧ ∀ i j, i + j ≤ xs.length → preS xs (i + j) - preS xs i ≤ mst cs j) ∨
    ∃ f l : Nat, breakR cs xs = ((f : Int), (l : Int), 0) ∧ 1 ≤ l ∧ f + l ≤ xs.length ∧ mst cs l < preS xs (f + l) - preS xs f ∧ (∀ j, j < l → preS xs (f + j) - preS xs f ≤ mst cs j) ∧ ∀ i, i < f → ∀ j, i + j ≤ xs.length → preS xs (i + j) - preS xs i ≤ mst cs j := by
  have e : breakR cs xs = match brkF xs (mostL cs xs.length) with | none => (0, 0, 5) | some (k, l) => ((k : Int), (l : Int), 0) := by
    unfold breakR
    rw [if_neg (by rw [hc]; simp), if_neg (by rw [hr]; simp)]
    rfl
  cases hb : brkF xs (mostL cs xs.length) with
  | none =>
    left
    rw [hb] at e
    refine ⟨e, fun i j hij => ?_⟩
    by_cases hi : i < xs.length
    · have hn : brkAt xs (mostL cs xs.length) i = none := by
        cases h : brkAt xs (mostL cs xs.length) i with
        | none => rfl
        | some l =>
          exfalso
          -- the first one that breaks
          have : ∀ m k, k ≤ i → i < k + m → brkN xs (mostL cs xs.length) k m ≠ none := by
            intro m
            induction m with
            | zero => intro k h1 h2; omega
            | succ m ih =>
              intro k h1 h2 hnn
              cases hk : brkAt xs (mostL cs xs.length) k with
              | some l' => simp [brkN, hk] at hnn
              | none =>
                simp [brkN, hk] at hnn
                by_cases hki : k = i
                · subst hki
                  rw [h] at hk
                  cases hk
                · exact ih (k + 1) (by omega) (by omega) hnn
          exact this xs.length 0 (Nat.zero_le _) (by omega) hb
      have := brkAt_no hn (j := j) (by omega)
      rw [mostL_get hc (by omega)] at this
      exact this
    · have hj : j = 0 := by omega
      subst hj
      rw [Nat.add_zero, mst_zero]
      omega
  | some p =>
    right
    obtain ⟨f, l⟩ := p
    rw [hb] at e
    obtain ⟨-, h1, h2, h3⟩ := brkN_spec hb
    obtain ⟨g1, g2, g3⟩ := brkAt_spec h2
    rw [mostL_get hc g1] at g2
    have hnn := (mst_nonneg (nums_of hc) l).1
    have hlf : l ≤ xs.length - f := by
      apply Classical.byContradiction
      intro hn
      rw [if_neg hn] at g2
      omega
    rw [if_pos hlf] at g2
    have hl1 : 1 ≤ l := by
      rcases Nat.eq_zero_or_pos l with h | h
      · subst h
        rw [Nat.add_zero, mst_zero] at g2
        omega
      · exact h
    refine ⟨f, l, e, hl1, by omega, g2, fun j hj => ?_, fun i hi j hij => ?_⟩
    · have := g3 j hj
      rw [if_pos (by omega), mostL_get hc (by omega)] at this
      omega
    · have := brkAt_no (h3 i (Nat.zero_le _) hi) (j := j) (by omega)
      rw [mostL_get hc (by omega)] at this
      exact this
/-! ### the rows of the law -/
def broF (cs bs : List Int) (t : Nat) : Int := (((bs[t]?.getD 0).toNat % ((cs[0]?.getD 0).toNat + 2) : Nat) : Int)
def smaF (cs bs ls : List Int) (t : Nat) : Int := if ls.length = 0 then broF cs bs t else broF cs bs t - min (broF cs bs t) ((((ls[t % ls.length]?.getD 0).toNat % 3 : Nat) : Nat) : Int)
def mapL (f : Nat → Int) (k : Nat) : List Int := (List.range k).map f
theorem mapL_len (f : Nat → Int) (k : Nat) : (mapL f k).length = k := by simp [mapL]
theorem mapL_succ (f : Nat → Int) (k : Nat) : mapL f (k + 1) = mapL f k ++ [f k] := by
  unfold mapL
  rw [List.range_succ, List.map_append]
  rfl
theorem mapL_get {f : Nat → Int} {k j : Nat} (h : j < k) : (mapL f k)[j]?.getD 0 = f j := by simp [mapL, h]
theorem bro_bound {cs : List Int} (h : curveF cs = 0) (bs : List Int) (t : Nat) : 0 ≤ broF cs bs t ∧ broF cs bs t ≤ 101 := by
  have h0 := (curve_nums h).2.2.1 0 (by have := (curve_nums h).1; omega)
  have := Nat.mod_lt (bs[t]?.getD 0).toNat (show 0 < (cs[0]?.getD 0).toNat + 2 by omega)
  unfold broF
  omega
theorem sma_bound {cs : List Int} (h : curveF cs = 0) (bs ls : List Int) (t : Nat) : 0 ≤ smaF cs bs ls t ∧ smaF cs bs ls t ≤ broF cs bs t := by
  have := bro_bound h bs t
  unfold smaF
  split
  · omega
  · rw [Int.min_def]
    split <;> omega
theorem preS_le {f g : Nat → Int} {k : Nat} (h : ∀ t, f t ≤ g t) : ∀ i j, i + j ≤ k → preS (mapL f k) (i + j) - preS (mapL f k) i ≤ preS (mapL g k) (i + j) - preS (mapL g k) i
  | i, 0, _ => by simp
  | i, j + 1, hij => by
    have ih := preS_le (f := f) (g := g) (k := k) h i j (by omega)
    have := h (i + j)
    rw [← Nat.add_assoc, preS, preS, mapL_get (by omega), mapL_get (by omega)]
    omega
theorem map_row {f : Nat → Int} {k : Nat} (hk : k ≤ 60) (h : ∀ t, 0 ≤ f t ∧ f t ≤ 10000) : rowF (mapL f k) = 0 := by
  refine rowF_zero (by rw [mapL_len]; exact hk) fun j hj => ?_
  rw [mapL_len] at hj
  rw [mapL_get hj]
  exact h j
end Go.Proofs.Ytlgibckhkdggdaa

/- lag: LagBroken. -/
namespace Go.Proofs.Ytlgibckhkdggdaa
open Go.RowKit Go.Shelf

attribute [local go_sem] Oper.semAt_some

theorem own_some {W : World} {B n : Nat} {v : Value} {xs : List Int} (h : W.ownsRow B 2 1 v n (xs.map (Value.int .i64))) (hn : 1 ≤ n) (hm : n ≤ 1000000) : ∃ g c, v = .slice (some ⟨g, 0, none⟩) n c ∧ n ≤ c ∧ IntsAt W W.heap.size (some ⟨g, 0, none⟩) n xs := by
  obtain ⟨A, c, rfl, hc, hi⟩ := own_form h hm
  rcases h.2 with ⟨-, h0⟩ | ⟨g, cap, cur, e, -⟩
  · omega
  · cases e
    exact ⟨g, c, rfl, hc, hi⟩
theorem part_pre (xs : List Int) (f l : Nat) : ∀ j, j ≤ l → preS ((xs.take (f + l)).drop f) j = preS xs (f + j) - preS xs f := fun j hj => by
  rw [preS_drop, preS_take xs (f + l) _ (by omega), preS_take xs (f + l) _ (by omega)]
theorem part_pre' {xs : List Int} {f e j : Nat} (h : f ≤ e) (hj : j ≤ e - f) : preS ((xs.take e).drop f) j = preS xs (f + j) - preS xs f := by
  rw [preS_drop, preS_take xs e _ (by omega), preS_take xs e _ (by omega)]
theorem breakR_err {cs xs : List Int} (hc : curveF cs = 0) (hr : rowF xs = 0) : (breakR cs xs).2.2 = 5 ∨ (breakR cs xs).2.2 = 0 := by
  rcases breakR_cases hc hr with ⟨e, -⟩ | ⟨f, l, e, -⟩
  · exact .inl (by rw [e])
  · exact .inr (by rw [e])
set_option maxRecDepth 100000 in
set_option maxHeartbeats 32000000 in
theorem LagBroken_any (w : World) (A A2 A3 : Option Addr) (n c m c2 n3 c3 : Nat) (xs bs ls : List Int) (hx : IntsAt w w.heap.size A n xs) (hy : U8At w w.heap.size A2 m bs) (hz : U8At w w.heap.size A3 n3 ls) :
    Calls Try.prog 10 #[.slice A n c, .slice A2 m c2, .slice A3 n3 c3] w fun e w' => e = .returned (.bool true) ∧ Below w.heap.size w w' := by
  obtain ⟨i0, hi, hz0, hz1, hz2⟩ := info_parts infoI64
  have hm := hx.small
  have hm2 := hy.small
  have hm3 := hz.small
  have Hlx := Lib.hid hx.len
  have Hlz := Lib.hid hz.len
  cases hf : fineF xs with
  | false =>
    have Hf := Lib.hid hf
    clear hf
    go_enter Try.func10, Try.ntmps10
    go_wp2_with (fail)
    refine (fine_any w _ A n c xs hx).mono ?_
    rintro e w1 ⟨rfl, hb⟩
    rw [Hf.out]
    go_wp2_with (fail)
    refine (Works_any w1).mono ?_
    rintro e w2 ⟨rfl, hb2⟩
    go_wp2_with (fail)
    exact bodyPost_ret (results_tmp rfl _ _ _) rfl ⟨rfl, hb.trans (hb2.mono hb.size)⟩
  | true =>
    have hc : curveF xs = 0 := by unfold fineF at hf; exact of_decide_eq_true hf
    have Hf := Lib.hid hf
    have Hc := Lib.hid hc
    clear hf hc
    by_cases h20 : 20 < (m : Int)
    · go_enter Try.func10, Try.ntmps10
      go_wp2_with (fail)
      refine (fine_any w _ A n c xs hx).mono ?_
      rintro e w1 ⟨rfl, hb⟩
      rw [Hf.out]
      go_wp2_with (fail)
      refine (Works_any w1).mono ?_
      rintro e w2 ⟨rfl, hb2⟩
      go_wp2_with (fail)
      exact bodyPost_ret (results_tmp rfl _ _ _) rfl ⟨rfl, hb.trans (hb2.mono hb.size)⟩
    have hm20 : m ≤ 20 := by omega
    have hn1 : 1 ≤ n := by have := (curve_nums Hc.out).1; rw [Hlx.out] at this; exact this
    go_enter Try.func10, Try.ntmps10
    go_wp2_with (fail)
    refine (fine_any w _ A n c xs hx).mono ?_
    rintro e w1 ⟨rfl, B1⟩
    rw [Hf.out]
    have hB1z := B1.size
    go_wp2_with (fail)
    go_loopg [7, 8, 9] m (fun g' v7 v8 v9 wr => ∃ t : Nat, (t ≤ m ∧ g' = m - t ∧ v9 = .int .i64 (t : Int)) ∧ (wr.ownsRow w1.heap.size 2 1 v7 t ((mapL (broF xs bs) t).map (.int .i64)) ∧ wr.ownsRow w1.heap.size 2 1 v8 t ((mapL (smaF xs bs ls) t).map (.int .i64)) ∧ Apart v7.ownBlock v8.ownBlock) ∧ Below w1.heap.size w1 wr)
    case atStart => exact ⟨0, ⟨by omega, rfl, rfl⟩, ⟨World.ownsRow_nil _ _ _ _, World.ownsRow_nil _ _ _ _, .inl rfl⟩, Below.refl _ _⟩
    case round =>
      obtain ⟨t, ⟨ht, rfl, rfl⟩, ⟨hrow, hsm, hap⟩, hb⟩ := hrel
      have hsz := hb.size
      have hbw := B1.trans (hb.mono hB1z)
      by_cases hlt : t < m
      case neg =>
        obtain rfl : t = m := by omega
        obtain ⟨A7, c7, rfl, hc7, i7⟩ := own_form hrow (by omega)
        obtain ⟨A8, c8, rfl, hc8, i8⟩ := own_form hsm (by omega)
        have I7 := Lib.hid i7
        have I8 := Lib.hid i8
        have hbb := fun j => bro_bound Hc.out bs j
        have hrr := Lib.hid (map_row (f := broF xs bs) (k := t) (by omega) (fun j => by have := hbb j; omega))
        have hsr := Lib.hid (map_row (f := smaF xs bs ls) (k := t) (by omega) (fun j => by have := hbb j; have := sma_bound Hc.out bs ls j; omega))
        have hbz := hbw.size
        clear hrow hsm hap hb hsz i7 i8 hbb
        go_wp2_with (fail)
        refine (Break_any wr _ _ A A7 n c t c7 xs (mapL (broF xs bs) t) (hx.below hbw (Nat.le_refl _)) hbz I7.out (Nat.le_refl _) hc7).mono ?_
        rintro e w3 ⟨rfl, hb3⟩
        have B3 := hbw.trans (hb3.mono hbz)
        have I7 := Lib.hid (ints_up I7.out hb3)
        have I8 := Lib.hid (ints_up I8.out hb3)
        clear hb3 hbw hbz
        rcases breakR_cases Hc.out hrr.out with ⟨he, hall⟩ | ⟨f, l, he, hl1, hfl, hov, hsh, hno⟩
        · rw [he]
          have Hall := Lib.hid hall
          clear hall he
          go_wp2_with (fail)
          refine (Break_any w3 _ _ A A8 n c t c8 xs (mapL (smaF xs bs ls) t) (hx.below B3 (Nat.le_refl _)) B3.size I8.out (Nat.le_refl _) hc8).mono ?_
          rintro e w4 ⟨rfl, hb4⟩
          rw [breakR_none Hc.out hsr.out (fun i j hij => by
            rw [mapL_len] at hij
            have a1 := preS_le (f := smaF xs bs ls) (g := broF xs bs) (k := t) (fun j => (sma_bound Hc.out bs ls j).2) i j hij
            have a2 := Hall.out i j (by rw [mapL_len]; exact hij)
            omega)]
          have B4 := B3.trans (hb4.mono B3.size)
          clear hb4 B3
          go_wp2_with (fail)
          refine (Works_any w4).mono ?_
          rintro e wl ⟨rfl, hb2⟩
          go_wp2_with (fail)
          exact bodyPost_ret (results_tmp rfl _ _ _) rfl ⟨rfl, B4.trans (hb2.mono B4.size)⟩
        · rw [he]
          rw [mapL_len] at hfl
          obtain ⟨b7, o7, rfl, -, -⟩ := I7.out.cell (k := 0) (by omega)
          have Hov := Lib.hid (And.intro hov (And.intro hsh hno))
          have v1 : ¬ (f : Int) < 0 := by omega
          have v2 : ¬ (l : Int) < 1 := by omega
          have v3 : IntKind.i64.wrap ((f : Int) + (l : Int)) = ((f + l : Nat) : Int) := by rw [IntKind.wrap_i64]; omega
          have v4 : ¬ (t : Int) < ((f + l : Nat) : Int) := by omega
          have v5 : IntKind.i64.wrap (((f + l : Nat) : Int) - 1) = ((f + l - 1 : Nat) : Int) := by rw [IntKind.wrap_i64]; omega
          have v6 : f + l ≤ c7 := by omega
          have v7 : f + l - 1 ≤ c7 := by omega
          have v8 : f ≤ f + l := by omega
          have v9 : f ≤ f + l - 1 := by omega
          have v10 : (f : Int) ≤ ((f + l : Nat) : Int) := by omega
          have v11 : (f : Int) ≤ ((f + l - 1 : Nat) : Int) := by omega
          obtain ⟨fl, hfle⟩ : ∃ fl, fl = f + l := ⟨_, rfl⟩
          obtain ⟨fm, hfme⟩ : ∃ fm, fm = f + l - 1 := ⟨_, rfl⟩
          rw [← hfme] at v5 v7 v9 v11
          rw [← hfle] at v3 v4 v5 v6 v8 v10
          have Hfl := Lib.hid (And.intro hfle hfme)
          clear hov hsh hno he hfle hfme
          go_wp2_with (fail)
          refine (Break_any w3 _ _ A A8 n c t c8 xs (mapL (smaF xs bs ls) t) (hx.below B3 (Nat.le_refl _)) B3.size I8.out (Nat.le_refl _) hc8).mono ?_
          rintro e w4 ⟨rfl, hb4⟩
          have B4 := B3.trans (hb4.mono B3.size)
          have I7 := Lib.hid (ints_up I7.out hb4)
          obtain ⟨⟨s1, s2, s3⟩, hs⟩ : ∃ r, r = breakR xs (mapL (smaF xs bs ls) t) := ⟨_, rfl⟩
          rw [← hs]
          clear hb4 B3 hs I8
          go_wp2_with (fail)
          refine (Most_any w4 _ A n c xs (l : Int) (hx.below B4 (Nat.le_refl _)) B4.size).mono ?_
          rintro e w5 ⟨rfl, hb5⟩
          rw [mostR_at Hc.out (show l ≤ 200 by omega)]
          have B5 := B4.trans (hb5.mono B4.size)
          have I7 := Lib.hid (ints_up I7.out hb5)
          clear hb5 B4
          go_wp2_with (fail)
          have hpb := Lib.hid (fun j (hj : j ≤ t) => preS_bound (row_of hrr.out) j (by rw [mapL_len]; exact hj))
          refine (Break_any w5 _ _ A (some ⟨b7, o7, none⟩) n c fm c7 xs ((mapL (broF xs bs) t).take fm) (hx.below B5 (Nat.le_refl _)) B5.size (I7.out.take (by have := Hfl.out; omega)) (Nat.le_refl _) v7).mono ?_
          rintro e w6 ⟨rfl, hb6⟩
          have B6 := B5.trans (hb6.mono B5.size)
          have I7 := Lib.hid (ints_up I7.out hb6)
          obtain ⟨⟨p1, p2, p3⟩, hp⟩ : ∃ r, r = breakR xs ((mapL (broF xs bs) t).take fm) := ⟨_, rfl⟩
          rw [← hp]
          have Hp := Lib.hid hp
          clear hb6 B5 hp
          go_wp2_with (fail)
          refine (last_any w6 w6.heap.size _ (fl - f) (c7 - f) (((mapL (broF xs bs) t).take fl).drop f) ((I7.out.take (by omega)).drop v8) (Nat.le_refl _) (by omega) (fun j hj => by rw [part_pre' v8 hj]; have a1 := hpb.out (f + j) (by omega); have a2 := hpb.out f (by omega); omega)).mono ?_
          rintro e w7 ⟨rfl, hb7⟩
          have B7 := B6.trans (hb7.mono B6.size)
          have I7 := Lib.hid (ints_up I7.out hb7)
          obtain ⟨yv, hyv⟩ : ∃ yv, yv = preS (((mapL (broF xs bs) t).take fl).drop f) (fl - f) := ⟨_, rfl⟩
          rw [← hyv]
          obtain ⟨ym, hym⟩ : ∃ ym, ym = mst xs l := ⟨_, rfl⟩
          rw [← hym]
          have hgt : ¬ yv ≤ ym := by
            obtain ⟨h1, h2⟩ := Hfl.out
            rw [hyv, part_pre' v8 (Nat.le_refl _), hym]
            have := Hov.out.1
            rw [show f + (fl - f) = f + l by omega]
            omega
          have hp3 : p3 = 5 ∨ p3 = 0 := by
            have hr' : rowF ((mapL (broF xs bs) t).take fm) = 0 := by
              refine rowF_zero (by rw [List.length_take, mapL_len]; omega) fun j hj => ?_
              rw [List.length_take, mapL_len] at hj
              rw [List.getElem?_take, if_pos (by omega), mapL_get (by omega)]
              have := bro_bound Hc.out bs j
              omega
            have := breakR_err Hc.out hr'
            rw [← Hp.out] at this
            exact this
          have hgt2 : ym < yv := by omega
          clear hyv hym hb7 B6
          rcases hp3 with rfl | rfl
          all_goals
            by_cases hf0 : f = 0
            case pos =>
              have hf1 : ¬ (0 : Int) < (f : Int) := by omega
              clear hf0
              go_wp2_with (fail)
              refine (last_any w7 w7.heap.size _ (fm - f) (c7 - f) (((mapL (broF xs bs) t).take fm).drop f) ((I7.out.take (by have := Hfl.out; omega)).drop v9) (Nat.le_refl _) (by have := Hfl.out; omega) (fun j hj => by rw [part_pre' v9 hj]; have h := Hfl.out; have a1 := hpb.out (f + j) (by have := Hfl.out; omega); have a2 := hpb.out f (by omega); omega)).mono ?_
              rintro e wx ⟨rfl, hbx⟩
              have BX := B7.trans (hbx.mono B7.size)
              obtain ⟨yl, hyl⟩ : ∃ yl, yl = preS (((mapL (broF xs bs) t).take fm).drop f) (fm - f) := ⟨_, rfl⟩
              rw [← hyl]
              have Hyl := Lib.hid hyl
              clear hyl hbx
              go_wp2_with (fail)
              refine (rMosts_any wx wx.heap.size A n c l xs ((hx.below BX (Nat.le_refl _)).more BX.size) (Nat.le_refl _) (nums_of Hc.out) (by omega)).mono ?_
              rintro e wy ⟨vy, rfl, hmy, hby⟩
              have BY := BX.trans (hby.mono BX.size)
              obtain ⟨gy, cy, rfl⟩ := ownsRow_succ hmy
              have cly := own_cell hmy (k := l - 1) (by omega)
              rw [sumsT_get xs (by omega)] at cly
              obtain ⟨ym, hym⟩ : ∃ ym, ym = mst xs (l - 1) := ⟨_, rfl⟩
              rw [← hym] at cly
              have hle : yl ≤ ym := by
                obtain ⟨h1, h2⟩ := Hfl.out
                rw [Hyl.out, part_pre' v9 (Nat.le_refl _), hym]
                have := Hov.out.2.1 (l - 1) (by omega)
                rw [show f + (fm - f) = f + (l - 1) by omega]
                exact this
              have hwl : IntKind.i64.wrap ((l : Int) - 1) = ((l - 1 : Nat) : Int) := by rw [IntKind.wrap_i64]; omega
              obtain ⟨L1, hL1⟩ : ∃ L1, L1 = l - 1 := ⟨_, rfl⟩
              obtain ⟨L2, hL2⟩ : ∃ L2, L2 = l + 1 := ⟨_, rfl⟩
              rw [← hL1] at cly hwl
              rw [← hL2]
              have hL12 : L1 < L2 := by omega
              clear hym hmy hby hL1 hL2
              go_wp2_with (fail)
              refine (Works_any wy).mono ?_
              rintro e wz ⟨rfl, hbz⟩
              go_wp2_with (fail)
              exact bodyPost_ret (results_tmp rfl _ _ _) rfl ⟨rfl, BY.trans (hbz.mono BY.size)⟩
            case neg =>
              have hf1 : (0 : Int) < (f : Int) := by omega
              go_wp2_with (fail)
              rw [show decide (0 < f) = true from decide_eq_true (by omega)]
              clear hf1 hf0
              go_loopg [23] f (fun g v23 wr => ∃ i : Nat, (i ≤ f ∧ g = f - i ∧ v23 = .int .i64 (i : Int)) ∧ Hid (IntsAt wr wr.heap.size (some ⟨b7, o7, none⟩) t (mapL (broF xs bs) t)) ∧ Below w.heap.size w wr)
              case atStart => exact ⟨0, ⟨by omega, rfl, rfl⟩, Lib.hid I7.out, B7⟩
              case round =>
                clear I7 B7 hgt hgt2
                obtain ⟨i, ⟨hif, rfl, rfl⟩, I8, B8⟩ := hrel
                have B8z := B8.size
                by_cases hlt : i < f
                case neg =>
                  have hif' : ¬ (i : Int) < (f : Int) := by omega
                  clear hlt
                  go_wp2_with (fail)
                  refine (last_any wr wr.heap.size _ (fm - f) (c7 - f) (((mapL (broF xs bs) t).take fm).drop f) ((I8.out.take (by have := Hfl.out; omega)).drop v9) (Nat.le_refl _) (by have := Hfl.out; omega) (fun j hj => by rw [part_pre' v9 hj]; have h := Hfl.out; have a1 := hpb.out (f + j) (by have := Hfl.out; omega); have a2 := hpb.out f (by omega); omega)).mono ?_
                  rintro e wx ⟨rfl, hbx⟩
                  have BX := B8.trans (hbx.mono B8.size)
                  obtain ⟨yl, hyl⟩ : ∃ yl, yl = preS (((mapL (broF xs bs) t).take fm).drop f) (fm - f) := ⟨_, rfl⟩
                  rw [← hyl]
                  have Hyl := Lib.hid hyl
                  clear hyl hbx
                  go_wp2_with (fail)
                  refine (rMosts_any wx wx.heap.size A n c l xs ((hx.below BX (Nat.le_refl _)).more BX.size) (Nat.le_refl _) (nums_of Hc.out) (by omega)).mono ?_
                  rintro e wy ⟨vy, rfl, hmy, hby⟩
                  have BY := BX.trans (hby.mono BX.size)
                  obtain ⟨gy, cy, rfl⟩ := ownsRow_succ hmy
                  have cly := own_cell hmy (k := l - 1) (by omega)
                  rw [sumsT_get xs (by omega)] at cly
                  obtain ⟨ym, hym⟩ : ∃ ym, ym = mst xs (l - 1) := ⟨_, rfl⟩
                  rw [← hym] at cly
                  have hle : yl ≤ ym := by
                    obtain ⟨h1, h2⟩ := Hfl.out
                    rw [Hyl.out, part_pre' v9 (Nat.le_refl _), hym]
                    have := Hov.out.2.1 (l - 1) (by omega)
                    rw [show f + (fm - f) = f + (l - 1) by omega]
                    exact this
                  have hwl : IntKind.i64.wrap ((l : Int) - 1) = ((l - 1 : Nat) : Int) := by rw [IntKind.wrap_i64]; omega
                  obtain ⟨L1, hL1⟩ : ∃ L1, L1 = l - 1 := ⟨_, rfl⟩
                  obtain ⟨L2, hL2⟩ : ∃ L2, L2 = l + 1 := ⟨_, rfl⟩
                  rw [← hL1] at cly hwl
                  rw [← hL2]
                  have hL12 : L1 < L2 := by omega
                  clear hym hmy hby hL1 hL2
                  go_wp2_with (fail)
                  refine (Works_any wy).mono ?_
                  rintro e wz ⟨rfl, hbz⟩
                  go_wp2_with (fail)
                  exact bodyPost_ret (results_tmp rfl _ _ _) rfl ⟨rfl, BY.trans (hbz.mono BY.size)⟩
                case pos =>
                  have hwi : IntKind.i64.wrap ((i : Int) + 1) = (i : Int) + 1 := by rw [IntKind.wrap_i64]; omega
                  go_wp2_with (fail)
                  go_loopg [24] (t - i) (fun g v24 wr => ∃ j : Nat, (1 ≤ j ∧ i + j ≤ t + 1 ∧ g = t + 1 - i - j ∧ v24 = .int .i64 (j : Int)) ∧ Hid (IntsAt wr wr.heap.size (some ⟨b7, o7, none⟩) t (mapL (broF xs bs) t)) ∧ Below w.heap.size w wr)
                  case atStart => exact ⟨1, ⟨by omega, by omega, by omega, rfl⟩, I8, B8⟩
                  case round =>
                    clear I8 B8 B8z
                    obtain ⟨j, ⟨hj1, hij, rfl, rfl⟩, I8, B8⟩ := hrel
                    have B8z := B8.size
                    have hwj : IntKind.i64.wrap ((j : Int) + 1) = (j : Int) + 1 := by rw [IntKind.wrap_i64]; omega
                    have hwij : IntKind.i64.wrap ((i : Int) + (j : Int)) = ((i + j : Nat) : Int) := by rw [IntKind.wrap_i64]; omega
                    by_cases hijt : ((i + j : Nat) : Int) ≤ (t : Int)
                    case neg =>
                      obtain ⟨ij, hije⟩ : ∃ ij, ij = i + j := ⟨_, rfl⟩
                      rw [← hije] at hwij hijt
                      clear hije
                      go_wp2_with (fail)
                      go_roundg (f - (i + 1))
                      case measure => omega
                      case rel => exact ⟨i + 1, ⟨by omega, rfl, by simp⟩, I8, B8⟩
                    case pos =>
                      have z1 : i + j ≤ c7 := by omega
                      have z2 : i ≤ i + j := by omega
                      have z3 : (i : Int) ≤ ((i + j : Nat) : Int) := by omega
                      obtain ⟨ij, hije⟩ : ∃ ij, ij = i + j := ⟨_, rfl⟩
                      rw [← hije] at hwij hijt z1 z2 z3
                      have Hije := Lib.hid hije
                      clear hije
                      go_wp2_with (fail)
                      refine (last_any wr wr.heap.size _ (ij - i) (c7 - i) (((mapL (broF xs bs) t).take ij).drop i) ((I8.out.take (by omega)).drop z2) (Nat.le_refl _) (by omega) (fun k hk => by rw [part_pre' z2 hk]; have a1 := hpb.out (i + k) (by omega); have a2 := hpb.out i (by omega); omega)).mono ?_
                      rintro e wx ⟨rfl, hbx⟩
                      have BX := B8.trans (hbx.mono B8z)
                      have I9 := Lib.hid (ints_up I8.out hbx)
                      obtain ⟨yl, hyl⟩ : ∃ yl, yl = preS (((mapL (broF xs bs) t).take ij).drop i) (ij - i) := ⟨_, rfl⟩
                      rw [← hyl]
                      have Hyl := Lib.hid hyl
                      clear hyl hbx
                      go_wp2_with (fail)
                      refine (rMosts_any wx wx.heap.size A n c j xs ((hx.below BX (Nat.le_refl _)).more BX.size) (Nat.le_refl _) (nums_of Hc.out) (by omega)).mono ?_
                      rintro e wy ⟨vy, rfl, hmy, hby⟩
                      have BY := BX.trans (hby.mono BX.size)
                      have I10 := Lib.hid (ints_up I9.out hby)
                      obtain ⟨gy, cy, rfl⟩ := ownsRow_succ hmy
                      have cly := own_cell hmy (k := j) (by omega)
                      rw [sumsT_get xs (Nat.le_refl _)] at cly
                      obtain ⟨ym, hym⟩ : ∃ ym, ym = mst xs j := ⟨_, rfl⟩
                      rw [← hym] at cly
                      have hle : ¬ ym < yl := by
                        rw [Hyl.out, part_pre' z2 (Nat.le_refl _), hym]
                        have := Hov.out.2.2 i hlt j (by rw [mapL_len]; have := Hije.out; omega)
                        rw [show i + (ij - i) = i + j by have := Hije.out; omega]
                        omega
                      obtain ⟨L2, hL2⟩ : ∃ L2, L2 = j + 1 := ⟨_, rfl⟩
                      rw [← hL2]
                      have hL12 : j < L2 := by omega
                      clear hym hmy hby hL2
                      go_wp2_with (fail)
                      go_roundg (t + 1 - i - (j + 1))
                      case measure => have := Hije.out; omega
                      case rel => exact ⟨j + 1, ⟨by omega, by have := Hije.out; omega, rfl, by simp⟩, I10, BY⟩
      case pos =>
        have hwt : IntKind.i64.wrap ((t : Int) + 1) = (t : Int) + 1 := by rw [IntKind.wrap_i64]; omega
        obtain ⟨b2, o2, rfl, -, cb, cb0, cb1⟩ := (hy.below hbw (Nat.le_refl _)).cell hlt
        obtain ⟨b1, o1, rfl, -, cx⟩ := (hx.below hbw (Nat.le_refl _)).cell (k := 0) (by omega)
        rw [Nat.add_zero] at cx
        have hx0 := (curve_nums Hc.out).2.2.1 0 (by rw [Hlx.out]; omega)
        obtain ⟨bn, hbn⟩ : ∃ bn : Nat, bs[t]?.getD 0 = (bn : Int) := ⟨(bs[t]?.getD 0).toNat, by omega⟩
        obtain ⟨cn, hcn⟩ : ∃ cn : Nat, xs[0]?.getD 0 = (cn : Int) := ⟨(xs[0]?.getD 0).toNat, by omega⟩
        have hbro : broF xs bs t = ((bn % (cn + 2) : Nat) : Int) := by unfold broF; rw [hbn, hcn, Int.toNat_natCast, Int.toNat_natCast]
        rw [hbn] at cb cb0 cb1
        rw [hcn] at cx hx0
        have u1 : IntKind.i64.wrap (bn : Int) = (bn : Int) := by rw [IntKind.wrap_i64]; omega
        have u2 : IntKind.i64.wrap ((cn : Int) + 2) = ((cn + 2 : Nat) : Int) := by rw [IntKind.wrap_i64]; omega
        have u3 : (bn : Int).tmod ((cn + 2 : Nat) : Int) = ((bn % (cn + 2) : Nat) : Int) := (Int.ofNat_tmod bn (cn + 2)).symm
        have hbb := bro_bound Hc.out bs t
        obtain ⟨D, hD⟩ : ∃ D, D = cn + 2 := ⟨_, rfl⟩
        obtain ⟨x, hxe⟩ : ∃ x, x = broF xs bs t := ⟨_, rfl⟩
        rw [← hD] at u2 u3 hbro
        rw [← hbro, ← hxe] at u3
        rw [← hxe] at hbb
        have u4 : IntKind.i64.wrap x = x := by rw [IntKind.wrap_i64]; omega
        have hD0 : ¬ D = 0 := by omega
        have hn0 : ¬ n = 0 := by omega
        have Hx := Lib.hid hxe
        clear hbro hbn hcn hxe hD
        by_cases hn3 : n3 = 0
        case pos =>
          subst hn3
          have hsx : smaF xs bs ls t = x := by unfold smaF; rw [if_pos Hlz.out, ← Hx.out]
          have Hs := Lib.hid hsx
          clear hsx
          go_wp2
          go_quiet (fail)
          have hrow' := own_drew (q := nq) hrow rfl
          have hsm' := own_drew (q := nq) hsm rfl
          have hb' : Below w1.heap.size w1 (wr.drewN nq) := hb.trans (below_drewN _ _)
          generalize wr.drewN nq = wq at hrow' hsm' hb' ⊢
          have hsq := hb'.size
          have hapL := Lib.hid hap
          clear hrow hsm hb hsz hap cb cx u1 u2 u3 u4
          go_wp2_with (at_builtin; first | (refine wpList_append_own_at _ rfl _ _ 22 rfl w1.heap.size 2 i0 (.int .i64 0) 1 8 Try.underlying22 hi hz0 hz1 hz2 rfl (by decide) _ _ _ rfl (hrow'.alloc _) ⟨wq.heap.size, 0, none⟩ 1 1 [.int .i64 x] rfl rfl (cell_one_new _ _ _) (by simp [Value.oneCell']) (by simp only [maxLen]; omega) (by omega) (by simp; omega) ?_; intro v7' wA hown7 hgrow7 _ hat7; have hs7 := (hsm'.alloc (.cells #[.int .i64 x] 2)).kept hgrow7 hapL.out.symm; have hszA : w1.heap.size ≤ wA.heap.size := Nat.le_trans hsq (Nat.le_trans (by simp) hgrow7.size)) | (refine wpList_append_own_at _ rfl _ _ 22 rfl w1.heap.size 2 i0 (.int .i64 0) 1 8 Try.underlying22 hi hz0 hz1 hz2 rfl (by decide) _ _ _ rfl (hs7.alloc _) ⟨wA.heap.size, 0, none⟩ 1 1 [.int .i64 x] rfl rfl (cell_one_new _ _ _) (by simp [Value.oneCell']) (by simp only [maxLen]; omega) (by omega) (by simp; omega) ?_; intro v8' wB hown8 hgrow8 _ hat8))
          go_roundg (m - (t + 1))
          case measure => omega
          case rel =>
            have hbA : Below w1.heap.size w1 wA := (hb'.alloc hsq _).trans ((Below.refl _ _).grown hgrow7 (by simp; omega) (fun r e => (hrow'.lt r e).1))
            have hbB : Below w1.heap.size w1 wB := (hbA.alloc hszA _).trans ((Below.refl _ _).grown hgrow8 (by simp; omega) (fun r e => (hs7.lt r e).1))
            have ap1 := hapL.out.grow hat7 (fun k e => by have := (hsm'.lt k e).2; simp; omega)
            have ap2 := ap1.symm.grow hat8 (fun k e => by have := (hown7.lt k e).2; simp; omega)
            refine ⟨t + 1, ⟨by omega, rfl, by simp⟩, ⟨?_, ?_, ap2.symm⟩, hbB⟩
            · rw [mapL_succ, ← Hx.out, List.map_append]
              exact (hown7.alloc _).kept hgrow8 ap1
            · rw [mapL_succ, Hs.out, List.map_append]
              exact hown8
        case neg =>
          obtain ⟨kk, hkk⟩ : ∃ kk, kk = t % n3 := ⟨_, rfl⟩
          have hkn : kk < n3 := by rw [hkk]; exact Nat.mod_lt _ (by omega)
          have hkt : kk ≤ t := by rw [hkk]; exact Nat.mod_le _ _
          have u5 : (t : Int).tmod (n3 : Int) = (kk : Int) := by rw [hkk]; exact (Int.ofNat_tmod t n3).symm
          have u6 : IntKind.i64.wrap (kk : Int) = (kk : Int) := by rw [IntKind.wrap_i64]; omega
          have hlb := hz.bound kk
          obtain ⟨ln, hln⟩ : ∃ ln : Nat, ls[kk]?.getD 0 = (ln : Int) := ⟨(ls[kk]?.getD 0).toNat, by omega⟩
          rw [hln] at hlb
          have u7 : IntKind.i64.wrap (ln : Int) = (ln : Int) := by rw [IntKind.wrap_i64]; omega
          have u8 : (ln : Int).tmod 3 = ((ln % 3 : Nat) : Int) := (Int.ofNat_tmod ln 3).symm
          obtain ⟨r, hr⟩ : ∃ r : Nat, r = ln % 3 := ⟨_, rfl⟩
          rw [← hr] at u8
          have hr3 : r < 3 := by rw [hr]; exact Nat.mod_lt _ (by omega)
          have u9 : IntKind.i64.wrap (r : Int) = (r : Int) := by rw [IntKind.wrap_i64]; omega
          have hsx : smaF xs bs ls t = x - min x (r : Int) := by
            unfold smaF
            rw [if_neg (by rw [Hlz.out]; exact hn3), ← Hx.out, Hlz.out, ← hkk, hln, Int.toNat_natCast, ← hr]
          have u10 : IntKind.i64.wrap (x - x) = 0 := by rw [IntKind.wrap_i64]; omega
          have u11 : IntKind.i64.wrap (x - (r : Int)) = x - (r : Int) := by rw [IntKind.wrap_i64]; omega
          have hn30 : (0 : Int) < (n3 : Int) := by omega
          have hn31 : ¬ n3 = 0 := by omega
          obtain ⟨b3, o3, rfl, hb3l, -, -, -⟩ := (hz.below hbw (Nat.le_refl _)).cell hkn
          have Hln := Lib.hid hln
          rw [Int.min_def] at hsx
          have Hs := Lib.hid hsx
          clear hsx hkk hln hr hkt
          go_wp2
          go_quiet (fail)
          have hrow' := own_drew (q := nq) hrow rfl
          have hsm' := own_drew (q := nq) hsm rfl
          have hb' : Below w1.heap.size w1 (wr.drewN nq) := hb.trans (below_drewN _ _)
          generalize wr.drewN nq = wq at hrow' hsm' hb' ⊢
          have hsq := hb'.size
          have hapL := Lib.hid hap
          clear hrow hsm hb hsz hap cb cx u1 u2 u3 u4
          have hmin : ∀ y : Int, (if x ≤ (r : Int) then x else (r : Int)) = y → smaF xs bs ls t = x - y := fun y e => by rw [Hs.out, e]
          have Hmin := Lib.hid hmin
          clear hmin
          by_cases hxr : x ≤ (r : Int)
          all_goals
            first
              | (have hxr2 : ¬ (r : Int) < x := by omega
                 have Hy := Lib.hid (show smaF xs bs ls t = 0 by rw [Hmin.out x (if_pos hxr)]; omega)
                 obtain ⟨y, hye⟩ : ∃ y : Int, y = 0 := ⟨_, rfl⟩
                 have u12 : IntKind.i64.wrap (x - x) = y := by rw [hye]; exact u10)
              | (have hxr2 : (r : Int) < x := by omega
                 have hxr3 : (r : Int) ≤ x := by omega
                 have Hy := Lib.hid (show smaF xs bs ls t = x - (r : Int) by rw [Hmin.out _ (if_neg hxr)])
                 obtain ⟨y, hye⟩ : ∃ y : Int, y = x - (r : Int) := ⟨_, rfl⟩
                 have u12 : IntKind.i64.wrap (x - (r : Int)) = y := by rw [hye]; exact u11)
            rw [← hye] at Hy
            have Hye := Lib.hid hye
            clear hye u10 u11
            go_wp2_with (at_builtin; first | (refine wpList_append_own_at _ rfl _ _ 22 rfl w1.heap.size 2 i0 (.int .i64 0) 1 8 Try.underlying22 hi hz0 hz1 hz2 rfl (by decide) _ _ _ rfl (hrow'.alloc _) ⟨wq.heap.size, 0, none⟩ 1 1 [.int .i64 x] rfl rfl (cell_one_new _ _ _) (by simp [Value.oneCell']) (by simp only [maxLen]; omega) (by omega) (by simp; omega) ?_; intro v7' wA hown7 hgrow7 _ hat7; have hs7 := (hsm'.alloc (.cells #[.int .i64 x] 2)).kept hgrow7 hapL.out.symm; have hszA : w1.heap.size ≤ wA.heap.size := Nat.le_trans hsq (Nat.le_trans (by simp) hgrow7.size); have hbA : Below w1.heap.size w1 wA := (hb'.alloc hsq _).trans ((Below.refl _ _).grown hgrow7 (by simp; omega) (fun r e => (hrow'.lt r e).1)); obtain ⟨b3', o3', e3, -, cl, -, -⟩ := (hz.below (B1.trans (hbA.mono hB1z)) (Nat.le_refl _)).cell hkn; cases e3; rw [Hln.out] at cl) | (refine wpList_append_own_at _ rfl _ _ 22 rfl w1.heap.size 2 i0 (.int .i64 0) 1 8 Try.underlying22 hi hz0 hz1 hz2 rfl (by decide) _ _ _ rfl (hs7.alloc _) ⟨wA.heap.size, 0, none⟩ 1 1 [.int .i64 y] rfl rfl (cell_one_new _ _ _) (by simp [Value.oneCell']) (by simp only [maxLen]; omega) (by omega) (by simp; omega) ?_; intro v8' wB hown8 hgrow8 _ hat8) | (refine wpList_append_own_at _ rfl _ _ 22 rfl w1.heap.size 2 i0 (.int .i64 0) 1 8 Try.underlying22 hi hz0 hz1 hz2 rfl (by decide) _ _ _ rfl (hs7.alloc _) ⟨wA.heap.size, 0, none⟩ 1 1 [.int .i64 0] rfl rfl (cell_one_new _ _ _) (by simp [Value.oneCell']) (by simp only [maxLen]; omega) (by omega) (by simp; omega) ?_; intro v8' wB hown8 hgrow8 _ hat8))
            go_roundg (m - (t + 1))
            case measure => omega
            case rel =>
              have hbB : Below w1.heap.size w1 wB := (hbA.alloc hszA _).trans ((Below.refl _ _).grown hgrow8 (by simp; omega) (fun r e => (hs7.lt r e).1))
              have ap1 := hapL.out.grow hat7 (fun k e => by have := (hsm'.lt k e).2; simp; omega)
              have ap2 := ap1.symm.grow hat8 (fun k e => by have := (hown7.lt k e).2; simp; omega)
              refine ⟨t + 1, ⟨by omega, rfl, by simp⟩, ⟨?_, ?_, ap2.symm⟩, hbB⟩
              · rw [mapL_succ, ← Hx.out, List.map_append]
                exact (hown7.alloc _).kept hgrow8 ap1
              · rw [mapL_succ, Hy.out, List.map_append]
                first
                  | exact hown8
                  | (rw [Hye.out]
                     exact hown8)
end Go.Proofs.Ytlgibckhkdggdaa
