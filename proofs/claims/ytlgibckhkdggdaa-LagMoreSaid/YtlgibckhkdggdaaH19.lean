/- Parts of a proof: TA TB. -/
import Derived.Test.YtlgibckhkdggdaaH18

/- lag's law: rows of bytes; fine, Keeping. -/
namespace Go.Proofs.Ytlgibckhkdggdaa
open Go.RowKit Go.Shelf

attribute [local go_sem] Oper.semAt_some

/-- A slice of bytes that reads as the list. -/
def U8At (w : World) (B : Nat) (A : Option Addr) (n : Nat) (xs : List Int) : Prop :=
  xs.length = n ∧ n ≤ 9223372036854775807 ∧ (0 < n → ∃ b off, A = some ⟨b, off, none⟩ ∧ b < B ∧ ∀ j, j < n → w.cell? ⟨b, off + j, none⟩ = some (.int .u8 (xs[j]?.getD 0)) ∧ 0 ≤ xs[j]?.getD 0 ∧ xs[j]?.getD 0 ≤ 255)
theorem U8At.len {w : World} {B : Nat} {A : Option Addr} {n : Nat} {xs : List Int} (h : U8At w B A n xs) : xs.length = n := h.1
theorem U8At.small {w : World} {B : Nat} {A : Option Addr} {n : Nat} {xs : List Int} (h : U8At w B A n xs) : n ≤ 9223372036854775807 := h.2.1
theorem U8At.cell {w : World} {B : Nat} {A : Option Addr} {n : Nat} {xs : List Int} (h : U8At w B A n xs) {k : Nat} (hk : k < n) :
    ∃ b off, A = some ⟨b, off, none⟩ ∧ b < B ∧ w.cell? ⟨b, off + k, none⟩ = some (.int .u8 (xs[k]?.getD 0)) ∧ 0 ≤ xs[k]?.getD 0 ∧ xs[k]?.getD 0 ≤ 255 := by
  obtain ⟨_, _, h⟩ := h
  obtain ⟨b, off, e, hb, hc⟩ := h (by omega)
  exact ⟨b, off, e, hb, hc k hk⟩
theorem U8At.below {w w' : World} {B D : Nat} {A : Option Addr} {n : Nat} {xs : List Int} (h : U8At w B A n xs) (hb : Below D w w') (hD : B ≤ D) : U8At w' B A n xs := by
  refine ⟨h.1, h.2.1, fun h0 => ?_⟩
  obtain ⟨b, off, e, hlt, hc⟩ := h.2.2 h0
  exact ⟨b, off, e, hlt, fun j hj => ⟨(hb.cell (p := ⟨b, off + j, none⟩) (show b < D by omega)).trans (hc j hj).1, (hc j hj).2⟩⟩
theorem U8At.bound {w : World} {B : Nat} {A : Option Addr} {n : Nat} {xs : List Int} (h : U8At w B A n xs) (k : Nat) : 0 ≤ xs[k]?.getD 0 ∧ xs[k]?.getD 0 ≤ 255 := by
  by_cases hk : k < n
  · obtain ⟨_, _, _, _, _, h⟩ := h.cell hk
    exact h
  · rw [List.getElem?_eq_none (by rw [h.1]; omega)]
    simp
def fineF (xs : List Int) : Bool := decide (curveF xs = 0)
set_option maxHeartbeats 1000000 in
theorem fine_any (w : World) (B : Nat) (A : Option Addr) (n c : Nat) (xs : List Int) (hx : IntsAt w B A n xs) :
    Calls Try.prog 51 #[.slice A n c] w fun e w' => e = .returned (.bool (fineF xs)) ∧ Below w.heap.size w w' := by
  have hm := hx.small
  by_cases hg : 12 < (n : Int)
  · have Hr := Lib.hid (show fineF xs = false by
      have : curveF xs = 6 := by unfold curveF; rw [if_pos (by rw [hx.len]; omega)]
      unfold fineF
      rw [this]
      rfl)
    go_enter Try.func51, Try.ntmps51
    go_wp2_with (go_at_call 17; refine (great_any _ _ _ _).mono ?_; rintro e w' ⟨rfl, rfl⟩)
    go_ret
    exact ⟨ret_bool Hr.out.symm, Below.refl _ _⟩
  · go_enter Try.func51, Try.ntmps51
    go_wp2_with (go_at_call 17; refine (great_any _ _ _ _).mono ?_; rintro e w' ⟨rfl, rfl⟩)
    refine (rCheckCurve_any _ B A n c xs hx).mono ?_
    rintro e w2 ⟨rfl, q, rfl⟩
    have hb : ∀ W : World, Below W.heap.size W (W.drewN q) := fun W => below_drewN _ _
    have Hf := Lib.hid (show fineF xs = (curveF xs == 0) from rfl)
    obtain ⟨r, hr⟩ : ∃ r, r = curveF xs := ⟨_, rfl⟩
    rw [← hr]
    have Hr := Lib.hid hr
    clear hr
    go_wp2_with (fail)
    go_ret
    exact ⟨ret_bool (by rw [Hf.out, ← Hr.out]; simp [hg]), below_drewN _ _⟩

theorem own_cell {W : World} {B g c n k : Nat} {xs : List Int} (h : W.ownsRow B 2 1 (.slice (some ⟨g, 0, none⟩) n c) n (xs.map (Value.int .i64))) (hk : k < n) : W.cell? ⟨g, k, none⟩ = some (.int .i64 (xs[k]?.getD 0)) := by
  have hl : xs.length = n := by have := h.1; simpa using this
  rw [h.cellAt k (by omega)]
  simp [List.getElem?_map, List.getElem?_eq_getElem (show k < xs.length by omega)]
/-! ### Keeping -/
def kepU (xs bs ss : List Int) (t : Nat) : Nat → Int
  | 0 => bs[t]?.getD 0
  | u + 1 => min (kepU xs bs ss t u) (mst xs (t + 1 - u) - (ss[t]?.getD 0 - ss[u]?.getD 0))
/-- The sums so far. -/
def kepS (xs bs : List Int) : Nat → List Int
  | 0 => [0]
  | t + 1 => kepS xs bs t ++ [(kepS xs bs t)[t]?.getD 0 + kepU xs bs (kepS xs bs t) t (t + 1)]
def kepF (xs bs : List Int) (t : Nat) : Int := kepU xs bs (kepS xs bs t) t (t + 1)
def kepL (xs bs : List Int) (k : Nat) : List Int := (List.range k).map (kepF xs bs)
theorem kepL_len (xs bs : List Int) (k : Nat) : (kepL xs bs k).length = k := by simp [kepL]
theorem kepL_succ (xs bs : List Int) (k : Nat) : kepL xs bs (k + 1) = kepL xs bs k ++ [kepF xs bs k] := by
  unfold kepL
  rw [List.range_succ, List.map_append]
  rfl
theorem kepL_get {xs bs : List Int} {k j : Nat} (h : j < k) : (kepL xs bs k)[j]?.getD 0 = kepF xs bs j := by simp [kepL, h]
theorem kepS_len (xs bs : List Int) : ∀ k, (kepS xs bs k).length = k + 1
  | 0 => rfl
  | k + 1 => by rw [kepS, List.length_append, kepS_len xs bs k]; rfl
def kepT (xs bs : List Int) (j : Nat) : Int := (kepS xs bs j)[j]?.getD 0
theorem kepS_get {xs bs : List Int} : ∀ {k j : Nat}, j ≤ k → (kepS xs bs k)[j]?.getD 0 = kepT xs bs j
  | 0, j, h => by
    obtain rfl : j = 0 := by omega
    rfl
  | k + 1, j, h => by
    by_cases hj : j ≤ k
    · rw [kepS, List.getElem?_append_left (by rw [kepS_len]; omega)]
      exact kepS_get hj
    · obtain rfl : j = k + 1 := by omega
      rfl
theorem kepT_succ (xs bs : List Int) (t : Nat) : kepT xs bs (t + 1) = kepT xs bs t + kepF xs bs t := by
  unfold kepT
  rw [kepS, List.getElem?_append_right (by rw [kepS_len]; omega), kepS_len]
  simp [kepF]
theorem kepU_spec (xs bs ss : List Int) (t : Nat) : ∀ u, (kepU xs bs ss t u ≤ bs[t]?.getD 0 ∧ ∀ v, v < u → kepU xs bs ss t u ≤ mst xs (t + 1 - v) - (ss[t]?.getD 0 - ss[v]?.getD 0)) ∧ (kepU xs bs ss t u = bs[t]?.getD 0 ∨ ∃ v, v < u ∧ kepU xs bs ss t u = mst xs (t + 1 - v) - (ss[t]?.getD 0 - ss[v]?.getD 0))
  | 0 => ⟨⟨Int.le_refl _, fun v h => by omega⟩, .inl rfl⟩
  | u + 1 => by
    obtain ⟨⟨h1, h2⟩, h3⟩ := kepU_spec xs bs ss t u
    rw [kepU, Int.min_def]
    split
    · refine ⟨⟨h1, fun v hv => ?_⟩, ?_⟩
      · rcases Nat.lt_succ_iff_lt_or_eq.1 hv with h | rfl
        · exact h2 v h
        · assumption
      · rcases h3 with h3 | ⟨v, hv, e⟩
        · exact .inl h3
        · exact .inr ⟨v, by omega, e⟩
    · refine ⟨⟨by omega, fun v hv => ?_⟩, .inr ⟨u, by omega, rfl⟩⟩
      rcases Nat.lt_succ_iff_lt_or_eq.1 hv with h | rfl
      · have := h2 v h
        omega
      · exact Int.le_refl _
theorem preS_kep (xs bs : List Int) (k : Nat) : ∀ j, j ≤ k → preS (kepL xs bs k) j = kepT xs bs j
  | 0, _ => rfl
  | j + 1, h => by rw [preS, preS_kep xs bs k j (by omega), kepL_get (by omega), kepT_succ]
/-- The row keeps the curve. -/
theorem kep_keeps {xs bs : List Int} (hv : Nums xs) (hu : Ups xs) (hb : ∀ j : Nat, 0 ≤ bs[j]?.getD 0 ∧ bs[j]?.getD 0 ≤ 255) : ∀ t, (∀ u, u ≤ t → kepT xs bs t - kepT xs bs u ≤ mst xs (t - u)) ∧ 0 ≤ kepF xs bs t ∧ kepF xs bs t ≤ 255
  | 0 => by
    have h0 : ∀ u, u ≤ 0 → kepT xs bs 0 - kepT xs bs u ≤ mst xs (0 - u) := fun u hu => by
      obtain rfl : u = 0 := by omega
      rw [Nat.sub_self, mst_zero]
      omega
    refine ⟨h0, ?_⟩
    obtain ⟨⟨a1, a2⟩, a3⟩ := kepU_spec xs bs (kepS xs bs 0) 0 1
    have := hb 0
    rw [show kepF xs bs 0 = kepU xs bs (kepS xs bs 0) 0 1 from rfl]
    refine ⟨?_, by omega⟩
    rcases a3 with e | ⟨v, hv', e⟩
    · omega
    · obtain rfl : v = 0 := by omega
      have := (mst_nonneg hv 1).1
      rw [e]
      simp only [Nat.sub_zero, Nat.zero_add]
      omega
  | t + 1 => by
    obtain ⟨ih, i1, i2⟩ := kep_keeps hv hu hb t
    obtain ⟨⟨b1, b2⟩, -⟩ := kepU_spec xs bs (kepS xs bs t) t (t + 1)
    have h1 : ∀ u, u ≤ t + 1 → kepT xs bs (t + 1) - kepT xs bs u ≤ mst xs (t + 1 - u) := fun u hu' => by
      by_cases hut : u = t + 1
      · subst hut
        rw [Nat.sub_self, mst_zero]
        omega
      · have := b2 u (by omega)
        rw [kepS_get (Nat.le_refl _), kepS_get (by omega)] at this
        rw [kepT_succ]
        show kepT xs bs t + kepU xs bs (kepS xs bs t) t (t + 1) - _ ≤ _
        omega
    refine ⟨h1, ?_⟩
    obtain ⟨⟨a1, a2⟩, a3⟩ := kepU_spec xs bs (kepS xs bs (t + 1)) (t + 1) (t + 1 + 1)
    have := hb (t + 1)
    rw [show kepF xs bs (t + 1) = kepU xs bs (kepS xs bs (t + 1)) (t + 1) (t + 1 + 1) from rfl]
    refine ⟨?_, by omega⟩
    rcases a3 with e | ⟨v, hv', e⟩
    · omega
    · rw [e, kepS_get (Nat.le_refl _), kepS_get (by omega)]
      have c1 := h1 v (by omega)
      have c2 := mst_mono hv hu (show t + 1 - v ≤ t + 1 + 1 - v by omega)
      omega
theorem kepU_bound {xs bs : List Int} (hv : Nums xs) (hu : Ups xs) (hb : ∀ j : Nat, 0 ≤ bs[j]?.getD 0 ∧ bs[j]?.getD 0 ≤ 255) {t u : Nat} (h : u ≤ t + 1) : 0 ≤ kepU xs bs (kepS xs bs t) t u ∧ kepU xs bs (kepS xs bs t) t u ≤ 255 := by
  obtain ⟨⟨a1, a2⟩, a3⟩ := kepU_spec xs bs (kepS xs bs t) t u
  have := hb t
  refine ⟨?_, by omega⟩
  rcases a3 with e | ⟨v, hv', e⟩
  · omega
  · rw [e, kepS_get (Nat.le_refl _), kepS_get (by omega)]
    have c1 := (kep_keeps hv hu hb t).1 v (by omega)
    have c2 := mst_mono hv hu (show t - v ≤ t + 1 - v by omega)
    omega
theorem kepT_bound {xs bs : List Int} (hv : Nums xs) (hu : Ups xs) (hb : ∀ j : Nat, 0 ≤ bs[j]?.getD 0 ∧ bs[j]?.getD 0 ≤ 255) : ∀ t, 0 ≤ kepT xs bs t ∧ kepT xs bs t ≤ 255 * t
  | 0 => by simp [kepT, kepS]
  | t + 1 => by
    have h1 := kepT_bound hv hu hb t
    have h2 := (kep_keeps hv hu hb t).2
    rw [kepT_succ]
    omega
set_option maxRecDepth 100000 in
set_option maxHeartbeats 16000000 in
theorem Keeping_any (w : World) (B B2 : Nat) (A A2 : Option Addr) (n c m c2 : Nat) (xs bs : List Int) (hx : IntsAt w B A n xs) (hB : B ≤ w.heap.size) (hy : U8At w B2 A2 m bs) (hB2 : B2 ≤ w.heap.size) (hv : Nums xs) (hu : Ups xs) (hm : m ≤ 60) :
    Calls Try.prog 48 #[.slice A n c, .slice A2 m c2] w fun e w' => ∃ v, e = .returned v ∧ w'.ownsRow w.heap.size 2 1 v m ((kepL xs bs m).map (.int .i64)) ∧ Below w.heap.size w w' := by
  obtain ⟨i0, hi, hz0, hz1, hz2⟩ := info_parts infoI64
  have hm1 := hx.small
  have hm2 := hy.small
  have Hv := Lib.hid (And.intro hv hu)
  have Hb := Lib.hid hy.bound
  have Hk := Lib.hid (kep_keeps hv hu hy.bound)
  clear hv hu
  go_enter Try.func48, Try.ntmps48
  go_wp2_with (fail)
  refine (rMosts_any w B A n c m xs hx hB Hv.out.1 (by omega)).mono ?_
  rintro e w2 ⟨v, rfl, hmost, hb2⟩
  obtain ⟨g, cap, rfl⟩ := ownsRow_succ hmost
  have i1 := OwnZ.ints hmost (by omega)
  have hz2' := hb2.size
  clear hmost
  obtain ⟨M, hM⟩ : ∃ M, M = m + 1 := ⟨_, rfl⟩
  rw [← hM] at i1 ⊢
  have HM := Lib.hid hM
  clear hM
  have I1 := Lib.hid i1
  clear i1
  have hls := own_lit w2 w2.heap.size [0] (Nat.le_refl _) (by decide)
  have hb3 : Below w2.heap.size w2 (w2.alloc (.cells #[.int .i64 0] 2)) := (Below.refl _ w2).alloc (Nat.le_refl _) _
  go_wp2_with (fail)
  go_loopg [6, 7, 8] m (fun g' v6 v7 v8 wr => ∃ j : Nat, (j ≤ m ∧ g' = m - j ∧ v8 = .int .i64 (j : Int)) ∧ (wr.ownsRow w2.heap.size 2 1 v6 (j + 1) ((kepS xs bs j).map (.int .i64)) ∧ wr.ownsRow w2.heap.size 2 1 v7 j ((kepL xs bs j).map (.int .i64)) ∧ v7.ownBlock ≠ v6.ownBlock) ∧ Below w2.heap.size w2 wr)
  case atStart => exact ⟨0, ⟨by omega, rfl, rfl⟩, ⟨hls, World.ownsRow_nil _ _ _ _, by simp [Value.ownBlock]⟩, hb3⟩
  case round =>
    clear hls hb3
    obtain ⟨t, ⟨ht, rfl, rfl⟩, ⟨hs, hrow, hne⟩, hb⟩ := hrel
    obtain ⟨wo, rfl⟩ : ∃ wo, wo = wr := ⟨_, rfl⟩
    have hsz := hb.size
    by_cases hlt : t < m
    case neg =>
      obtain rfl : t = m := by omega
      go_wp2
      refine bodyPost_ret (results_tmp rfl _ _ _) rfl ⟨_, rfl, ?_, hb2.trans (hb.mono hz2')⟩
      exact own_lower hrow hz2'
    case pos =>
      have hwt : IntKind.i64.wrap ((t : Int) + 1) = ((t + 1 : Nat) : Int) := by rw [IntKind.wrap_i64]; omega
      have hwt' : IntKind.i64.wrap ((t : Int) + 1) = (t : Int) + 1 := by rw [IntKind.wrap_i64]; omega
      obtain ⟨bb, bo, rfl, hbB, cb, bb0, bb1⟩ := (hy.below (hb2.trans (hb.mono hz2')) hB2).cell hlt
      obtain ⟨g6, cap6, rfl⟩ := ownsRow_succ hs
      have hg6 := (hs.lt g6 rfl).2
      obtain ⟨x0, hx0⟩ : ∃ x, x = bs[t]?.getD 0 := ⟨_, rfl⟩
      rw [← hx0] at cb bb0 bb1
      have wb : IntKind.i64.wrap x0 = x0 := by rw [IntKind.wrap_i64]; omega
      have Hx0 := Lib.hid (show x0 = kepU xs bs (kepS xs bs t) t 0 from hx0)
      have i6 := OwnZ.ints hs (by omega)
      have I6 := Lib.hid i6
      obtain ⟨T, hT⟩ : ∃ T, T = t + 1 := ⟨_, rfl⟩
      rw [← hT] at hs ⊢
      have HT := Lib.hid hT
      rw [← hT] at hwt
      have tT : t < T := by omega
      have hT60 : T ≤ 60 := by omega
      clear hx0 hT i6 hwt'
      go_wp2_with (fail)
      clear cb
      go_loopg [9, 10] T (fun g' v9 v10 wr => ∃ u q : Nat, (u ≤ T ∧ g' = T - u ∧ v10 = .int .i64 (u : Int) ∧ v9 = .int .i64 (kepU xs bs (kepS xs bs t) t u)) ∧ Hid (wr = wo.drewN q))
      case atStart => exact ⟨0, 0, ⟨by omega, rfl, rfl, by rw [Hx0.out]⟩, Lib.hid rfl⟩
      case round =>
        obtain ⟨u, q, ⟨hu', rfl, rfl, rfl⟩, hq⟩ := hrel
        have hwu : IntKind.i64.wrap ((u : Int) + 1) = (u : Int) + 1 := by rw [IntKind.wrap_i64]; omega
        have hb' : Below w2.heap.size w2 wr := by rw [hq.out]; exact hb.trans (below_drewN _ _)
        have hcb := kepU_bound Hv.out.1 Hv.out.2 Hb.out (t := t) (u := u) (by have := HT.out; omega)
        by_cases hut : (u : Int) ≤ (t : Int)
        case neg =>
          obtain rfl : u = T := by have := HT.out; omega
          have hs' := own_drew hs hq.out
          have hrow' := own_drew hrow hq.out
          have hsz' : w2.heap.size ≤ wr.heap.size := hb'.size
          have hgw : g6 < wr.heap.size := by rw [hq.out]; exact hg6
          obtain ⟨bt, ot, et, -, ct⟩ := (I6.out.drewN q).cell (k := t) (by omega)
          cases et
          rw [← hq.out, Nat.zero_add, kepS_get (Nat.le_refl _)] at ct
          have hkt := kepT_bound Hv.out.1 Hv.out.2 Hb.out t
          have hks := kepT_succ xs bs t
          have hkf : kepF xs bs t = kepU xs bs (kepS xs bs t) t u := by rw [HT.out]; rfl
          rw [hkf] at hks
          obtain ⟨s, hse⟩ : ∃ s, s = kepT xs bs t := ⟨_, rfl⟩
          obtain ⟨y, hye⟩ : ∃ y, y = kepU xs bs (kepS xs bs t) t u := ⟨_, rfl⟩
          rw [← hse] at ct hkt hks
          rw [← hye] at hcb hks ⊢
          have wsy : IntKind.i64.wrap (s + y) = s + y := by rw [IntKind.wrap_i64]; omega
          have Hy := Lib.hid (And.intro hye (And.intro hse hks))
          have Hkf := Lib.hid hkf
          clear hse hye hks hkt hcb hs hrow hb hsz hq hkf
          have hsn : w2.heap.size ≤ (wr.alloc (.cells #[.int .i64 y] 2)).heap.size := by simp; omega
          have h6ne : ∀ v, v ≠ some g6 → ((Value.slice (some ⟨g6, 0, none⟩) u cap6).ownBlock = none ∨ (Value.slice (some ⟨g6, 0, none⟩) u cap6).ownBlock ≠ v) := fun v h => .inr (fun e => h e.symm)
          have H6 := Lib.hid h6ne
          have Hne := Lib.hid hne
          clear h6ne hne
          go_wp2_with (at_builtin; first | (refine wpList_append_own_at _ rfl _ _ 22 rfl w2.heap.size 2 i0 (.int .i64 0) 1 8 Try.underlying22 hi hz0 hz1 hz2 rfl (by decide) _ _ _ rfl (hrow'.alloc _) ⟨wr.heap.size, 0, none⟩ 1 1 [.int .i64 y] rfl rfl (cell_one_new _ _ _) (by simp [Value.oneCell']) (by simp only [maxLen]; omega) (by omega) (by simp; omega) ?_; intro v7' wA hown7 hgrow7 _ hat7; have hs7 := (hs'.alloc (.cells #[.int .i64 y] 2)).kept hgrow7 (H6.out _ (fun e => Hne.out e)); have ctA := own_cell hs7 (k := t) tT; rw [kepS_get (Nat.le_refl _), ← Hy.out.2.1] at ctA; have hszA : w2.heap.size ≤ wA.heap.size := Nat.le_trans hsn hgrow7.size) | (refine wpList_append_own_at _ rfl _ _ 22 rfl w2.heap.size 2 i0 (.int .i64 0) 1 8 Try.underlying22 hi hz0 hz1 hz2 rfl (by decide) _ _ _ rfl (hs7.alloc _) ⟨wA.heap.size, 0, none⟩ 1 1 [.int .i64 (s + y)] rfl rfl (cell_one_new _ _ _) (by simp [Value.oneCell']) (by simp only [maxLen]; omega) (by omega) (by simp; omega) ?_; intro v6' wB hown6 hgrow6 _ hat6))
          go_roundg (m - (t + 1))
          case measure => omega
          case rel =>
            have hTe := HT.out
            have hbA : Below w2.heap.size w2 wA := (hb'.alloc hsz' _).trans ((Below.refl _ _).grown hgrow7 (by simp; omega) (fun r e => (hrow'.lt r e).1))
            have hbB : Below w2.heap.size w2 wB := (hbA.alloc hszA _).trans ((Below.refl _ _).grown hgrow6 (by simp; omega) (fun r e => (hs7.lt r e).1))
            have hn7 : v7'.ownBlock ≠ some g6 := by
              intro e
              rcases hat7 with h | h
              · exact Hne.out (h.symm.trans e)
              · rw [e] at h
                simp at h
                omega
            have hl7 : ∀ k, v7'.ownBlock = some k → k < wA.heap.size := fun k e => (hown7.lt k e).2
            refine ⟨t + 1, ⟨by omega, rfl, by rw [← hTe]⟩, ⟨?_, ?_, ?_⟩, hbB⟩
            · rw [← hTe, show kepS xs bs u = kepS xs bs t ++ [s + y] by rw [hTe, kepS, kepS_get (Nat.le_refl _), Hy.out.2.1, Hy.out.1, hTe], List.map_append]
              exact hown6
            · rw [kepL_succ, Hkf.out, ← Hy.out.1, List.map_append]
              exact (hown7.alloc _).kept hgrow6 (.inr hn7)
            · intro e
              rcases hat6 with h | h
              · rw [h] at e
                exact hn7 e
              · rw [h] at e
                have := hl7 _ e
                simp at this
                omega
        case pos =>
          obtain ⟨b1, o1, e1, -, c1⟩ := (I1.out.below hb' (Nat.le_refl _)).cell (k := T - u) (by have := HT.out; have := HM.out; omega)
          cases e1
          obtain ⟨b2, o2, e2, -, c3⟩ := (I6.out.drewN q).cell (k := t) (by omega)
          cases e2
          obtain ⟨b3, o3, e3, -, c4⟩ := (I6.out.drewN q).cell (k := u) (by have := HT.out; omega)
          cases e3
          rw [← hq.out, Nat.zero_add] at c3 c4
          rw [sumsT_get xs (by have := HT.out; omega), Nat.zero_add] at c1
          have hnx : kepU xs bs (kepS xs bs t) t (u + 1) = min (kepU xs bs (kepS xs bs t) t u) (mst xs (T - u) - ((kepS xs bs t)[t]?.getD 0 - (kepS xs bs t)[u]?.getD 0)) := by rw [HT.out]; rfl
          rw [Int.min_def] at hnx
          have q1 := mst_nonneg Hv.out.1 (T - u)
          have q2 := kepT_bound Hv.out.1 Hv.out.2 Hb.out t
          have q3 := kepT_bound Hv.out.1 Hv.out.2 Hb.out u
          rw [← kepS_get (k := t) (Nat.le_refl t)] at q2
          rw [← kepS_get (k := t) (show u ≤ t by omega)] at q3
          have l1 : T - u < M := by have := HT.out; have := HM.out; omega
          have l3 : u < T := by have := HT.out; omega
          have v1 : IntKind.i64.wrap ((T : Int) - (u : Int)) = ((T - u : Nat) : Int) := by rw [IntKind.wrap_i64]; omega
          obtain ⟨d, hd⟩ : ∃ d, d = T - u := ⟨_, rfl⟩
          obtain ⟨x1, hx1⟩ : ∃ x, x = mst xs (T - u) := ⟨_, rfl⟩
          obtain ⟨x3, hx3⟩ : ∃ x, x = (kepS xs bs t)[t]?.getD 0 := ⟨_, rfl⟩
          obtain ⟨x4, hx4⟩ : ∃ x, x = (kepS xs bs t)[u]?.getD 0 := ⟨_, rfl⟩
          obtain ⟨cur, hcu⟩ : ∃ x, x = kepU xs bs (kepS xs bs t) t u := ⟨_, rfl⟩
          rw [← hx1] at c1 hnx q1
          rw [← hx3] at c3 hnx q2
          rw [← hx4] at c4 hnx q3
          rw [← hcu] at hnx hcb ⊢
          rw [← hd] at c1 v1 l1
          have v2 : IntKind.i64.wrap (x3 - x4) = x3 - x4 := by rw [IntKind.wrap_i64]; omega
          have v3 : IntKind.i64.wrap (x1 - (x3 - x4)) = x1 - (x3 - x4) := by rw [IntKind.wrap_i64]; omega
          obtain ⟨y, hye⟩ : ∃ y, y = x1 - (x3 - x4) := ⟨_, rfl⟩
          have v3 : IntKind.i64.wrap (x1 - (x3 - x4)) = y := by rw [hye]; exact v3
          rw [← hye] at hnx
          have Hn := Lib.hid hnx
          have Hye := Lib.hid hye
          clear hx1 hx3 hx4 hcu hnx hye hd q1 q2 q3 hcb
          by_cases hc : cur ≤ y
          · have hc' : ¬ y < cur := by omega
            have Hc := Lib.hid hc
            go_wp2
            go_quiet (fail)
            go_wp2
            go_roundg (T - (u + 1))
            case measure => omega
            case rel => exact ⟨u + 1, _, ⟨by omega, rfl, by simp, by rw [Hn.out, if_pos (by have := Hc.out; omega)]⟩, Lib.hid (by rw [hq.out]; simp only [World.drewN_drewN]; rfl)⟩
          · have hc' : y < cur := by omega
            have Hc := Lib.hid hc
            go_wp2
            go_quiet (fail)
            go_wp2
            go_roundg (T - (u + 1))
            case measure => omega
            case rel => exact ⟨u + 1, _, ⟨by omega, rfl, by simp, by rw [Hn.out, if_neg (by have := Hc.out; omega)] <;> simp [Hye.out]⟩, Lib.hid (by rw [hq.out]; simp only [World.drewN_drewN]; rfl)⟩
end Go.Proofs.Ytlgibckhkdggdaa

/- lag: LagTight. -/
namespace Go.Proofs.Ytlgibckhkdggdaa
open Go.RowKit Go.Shelf

attribute [local go_sem] Oper.semAt_some

theorem own_form {W : World} {B n : Nat} {v : Value} {xs : List Int} (h : W.ownsRow B 2 1 v n (xs.map (Value.int .i64))) (hm : n ≤ 1000000) : ∃ A c, v = .slice A n c ∧ n ≤ c ∧ IntsAt W W.heap.size A n xs := by
  have hl : xs.length = n := by have := h.1; simpa using this
  subst hl
  exact OwnZ.row h hm
theorem mostR_at {xs : List Int} (h : curveF xs = 0) {k : Nat} (hk : k ≤ 200) : mostR xs (k : Int) = (mst xs k, 0) := by
  unfold mostR
  rw [if_neg (by rw [h]; simp), if_neg (by omega), Int.toNat_natCast, mostL_at h]
theorem rowF_zero {xs : List Int} (hl : xs.length ≤ 60) (h : ∀ j, j < xs.length → 0 ≤ xs[j]?.getD 0 ∧ xs[j]?.getD 0 ≤ 10000) : rowF xs = 0 := by
  unfold rowF
  rw [if_neg (by omega), if_neg]
  rw [withinF_true h]
  simp
theorem breakR_none {cs xs : List Int} (hc : curveF cs = 0) (hr : rowF xs = 0) (h : ∀ i j, i + j ≤ xs.length → preS xs (i + j) - preS xs i ≤ mst cs j) : breakR cs xs = (0, 0, 5) := by
  have e : brkF xs (mostL cs xs.length) = none := by
    unfold brkF
    refine brkN_none fun i _ hi => brkAt_none (fun j => mostL_nonneg hc _ j) fun j _ hj => ?_
    rw [mostL_get hc (by omega)]
    have := h i j (by omega)
    omega
  unfold breakR
  rw [if_neg (by rw [hc]; simp), if_neg (by rw [hr]; simp), e]
theorem mst_100 {xs : List Int} (h : curveF xs = 0) (k : Nat) : mst xs k ≤ 100 * k := (sumsT_100 h k k (Nat.le_refl _)).2
/-- The row in which the most comes. -/
def ownL (cs : List Int) (m : Nat) : List Int := difL (mostL cs m) m
theorem ownL_len (cs : List Int) (m : Nat) : (ownL cs m).length = m := by unfold ownL; rw [difL_dif, difP_len]
theorem ownL_get {cs : List Int} (h : curveF cs = 0) {m j : Nat} (hj : j < m) : (ownL cs m)[j]?.getD 0 = mst cs (j + 1) - mst cs j := by
  unfold ownL
  rw [difL_dif]
  have : (difP (mostL cs m) m)[j]?.getD 0 = difF (mostL cs m) j := by simp [difP, hj]
  rw [this]
  unfold difF
  rw [mostL_get h (by omega), mostL_get h (by omega)]
theorem preS_own {cs : List Int} (h : curveF cs = 0) (m : Nat) : ∀ j, j ≤ m → preS (ownL cs m) j = mst cs j
  | 0, _ => rfl
  | j + 1, hj => by
    rw [preS, preS_own h m j (by omega), ownL_get h (by omega)]
    omega
theorem own_row {cs : List Int} (h : curveF cs = 0) {m : Nat} (hm : m ≤ 60) : rowF (ownL cs m) = 0 := by
  refine rowF_zero (by rw [ownL_len]; exact hm) fun j hj => ?_
  rw [ownL_len] at hj
  rw [ownL_get h hj]
  have a1 := mst_up (nums_of h) (ups_of h) j
  have a2 := mst_100 h (j + 1)
  have a3 := (mst_nonneg (nums_of h) j).1
  omega
theorem own_keeps {cs : List Int} (h : curveF cs = 0) {m : Nat} (hm : m ≤ 60) : breakR cs (ownL cs m) = (0, 0, 5) := by
  refine breakR_none h (own_row h hm) fun i j hij => ?_
  rw [ownL_len] at hij
  rw [preS_own h m _ hij, preS_own h m _ (by omega)]
  have := mst_sub (nums_of h).1 i j
  omega
theorem kep_row {cs bs : List Int} (h : curveF cs = 0) (hb : ∀ j : Nat, 0 ≤ bs[j]?.getD 0 ∧ bs[j]?.getD 0 ≤ 255) {m : Nat} (hm : m ≤ 60) : rowF (kepL cs bs m) = 0 := by
  refine rowF_zero (by rw [kepL_len]; exact hm) fun j hj => ?_
  rw [kepL_len] at hj
  rw [kepL_get hj]
  have := (kep_keeps (nums_of h) (ups_of h) hb j).2
  omega
theorem kep_none {cs bs : List Int} (h : curveF cs = 0) (hb : ∀ j : Nat, 0 ≤ bs[j]?.getD 0 ∧ bs[j]?.getD 0 ≤ 255) {m : Nat} (hm : m ≤ 60) : breakR cs (kepL cs bs m) = (0, 0, 5) := by
  refine breakR_none h (kep_row h hb hm) fun i j hij => ?_
  rw [kepL_len] at hij
  rw [preS_kep cs bs m _ hij, preS_kep cs bs m _ (by omega)]
  have := (kep_keeps (nums_of h) (ups_of h) hb (i + j)).1 i (by omega)
  rw [show i + j - i = j by omega] at this
  exact this
set_option maxRecDepth 100000 in
set_option maxHeartbeats 16000000 in
theorem LagTight_any (w : World) (A A2 : Option Addr) (n c m c2 : Nat) (xs bs : List Int) (one two : Int) (hx : IntsAt w w.heap.size A n xs) (hy : U8At w w.heap.size A2 m bs) (h1 : 0 ≤ one ∧ one ≤ 255) (h2 : 0 ≤ two ∧ two ≤ 255) :
    Calls Try.prog 9 #[.slice A n c, .int .u8 one, .int .u8 two, .slice A2 m c2] w fun e w' => e = .returned (.bool true) ∧ Below w.heap.size w w' := by
  have hm := hx.small
  have hm2 := hy.small
  have Hlx := Lib.hid hx.len
  cases hf : fineF xs with
  | false =>
    have Hf := Lib.hid hf
    clear hf
    go_enter Try.func9, Try.ntmps9
    go_wp2_with (fail)
    refine (fine_any w _ A n c xs hx).mono ?_
    rintro e w1 ⟨rfl, hb⟩
    rw [Hf.out]
    go_wp2_with (fail)
    refine (Works_any w1).mono ?_
    rintro e w2 ⟨rfl, hb2⟩
    go_wp2_with (fail)
    exact bodyPost_ret (results_tmp rfl _ _ _) rfl ⟨rfl, hb.trans (hb2.mono hb.size)⟩
  | true =>
    have hc : curveF xs = 0 := by unfold fineF at hf; exact of_decide_eq_true hf
    have Hf := Lib.hid hf
    have Hc := Lib.hid hc
    clear hf hc
    by_cases h20 : 20 < (m : Int)
    · go_enter Try.func9, Try.ntmps9
      go_wp2_with (fail)
      refine (fine_any w _ A n c xs hx).mono ?_
      rintro e w1 ⟨rfl, hb⟩
      rw [Hf.out]
      go_wp2_with (fail)
      refine (Works_any w1).mono ?_
      rintro e w2 ⟨rfl, hb2⟩
      go_wp2_with (fail)
      exact bodyPost_ret (results_tmp rfl _ _ _) rfl ⟨rfl, hb.trans (hb2.mono hb.size)⟩
    obtain ⟨o1, rfl⟩ : ∃ o1 : Nat, one = (o1 : Int) := ⟨one.toNat, by omega⟩
    obtain ⟨o2, rfl⟩ : ∃ o2 : Nat, two = (o2 : Int) := ⟨two.toNat, by omega⟩
    have t1 : (o1 : Int).tmod 100 = ((o1 % 100 : Nat) : Int) := (Int.ofNat_tmod o1 100).symm
    have t2 : (o2 : Int).tmod 100 = ((o2 % 100 : Nat) : Int) := (Int.ofNat_tmod o2 100).symm
    obtain ⟨p, hp⟩ : ∃ p, p = o1 % 100 := ⟨_, rfl⟩
    obtain ⟨q, hq⟩ : ∃ q, q = o2 % 100 := ⟨_, rfl⟩
    have hp99 : p ≤ 99 := by omega
    have hq99 : q ≤ 99 := by omega
    rw [← hp] at t1
    rw [← hq] at t2
    have u1 : IntKind.i64.wrap (o1 : Int) = (o1 : Int) := by rw [IntKind.wrap_i64]; omega
    have u2 : IntKind.i64.wrap (o2 : Int) = (o2 : Int) := by rw [IntKind.wrap_i64]; omega
    have u3 : IntKind.i64.wrap (p : Int) = (p : Int) := by rw [IntKind.wrap_i64]; omega
    have u4 : IntKind.i64.wrap (q : Int) = (q : Int) := by rw [IntKind.wrap_i64]; omega
    have u5 : IntKind.i64.wrap ((p : Int) + (q : Int)) = ((p + q : Nat) : Int) := by rw [IntKind.wrap_i64]; omega
    have hm20 : m ≤ 20 := by omega
    clear hp hq
    go_enter Try.func9, Try.ntmps9
    go_wp2_with (fail)
    refine (fine_any w _ A n c xs hx).mono ?_
    rintro e w1 ⟨rfl, B1⟩
    rw [Hf.out]
    go_wp2_with (fail)
    refine (Most_any w1 _ A n c xs ((p : Nat) : Int) (hx.below B1 (Nat.le_refl _)) B1.size).mono ?_
    rintro e w2 ⟨rfl, hb⟩
    have B2 := B1.trans (hb.mono B1.size)
    rw [mostR_at Hc.out (show p ≤ 200 by omega)]
    obtain ⟨ya, hya⟩ : ∃ y, y = mst xs (p) := ⟨_, rfl⟩
    rw [← hya]
    have Hya := Lib.hid hya
    clear hya hb B1
    go_wp2_with (fail)
    refine (Most_any w2 _ A n c xs ((q : Nat) : Int) (hx.below B2 (Nat.le_refl _)) B2.size).mono ?_
    rintro e w3 ⟨rfl, hb⟩
    have B3 := B2.trans (hb.mono B2.size)
    rw [mostR_at Hc.out (show q ≤ 200 by omega)]
    obtain ⟨yb, hyb⟩ : ∃ y, y = mst xs (q) := ⟨_, rfl⟩
    rw [← hyb]
    have Hyb := Lib.hid hyb
    clear hyb hb B2
    go_wp2_with (fail)
    refine (Most_any w3 _ A n c xs ((p + q : Nat) : Int) (hx.below B3 (Nat.le_refl _)) B3.size).mono ?_
    rintro e w4 ⟨rfl, hb⟩
    have B4 := B3.trans (hb.mono B3.size)
    rw [mostR_at Hc.out (show p + q ≤ 200 by omega)]
    obtain ⟨yc, hyc⟩ : ∃ y, y = mst xs (p + q) := ⟨_, rfl⟩
    rw [← hyc]
    have Hyc := Lib.hid hyc
    clear hyc hb B3
    have f1 : yc ≤ ya + yb := by rw [Hyc.out, Hya.out, Hyb.out]; exact mst_sub (nums_of Hc.out).1 p q
    have f2 : ya ≤ yc := by rw [Hyc.out, Hya.out]; exact mst_mono (nums_of Hc.out) (ups_of Hc.out) (by omega)
    have f3 : yb ≤ yc := by rw [Hyc.out, Hyb.out]; exact mst_mono (nums_of Hc.out) (ups_of Hc.out) (by omega)
    have f4 : 0 ≤ ya ∧ ya ≤ 10000 := by rw [Hya.out]; have := mst_nonneg (nums_of Hc.out) p; have := mst_100 Hc.out p; omega
    have f5 : 0 ≤ yb ∧ yb ≤ 10000 := by rw [Hyb.out]; have := mst_nonneg (nums_of Hc.out) q; have := mst_100 Hc.out q; omega
    have f6 : IntKind.i64.wrap (ya + yb) = ya + yb := by rw [IntKind.wrap_i64]; omega
    have f7 : ¬ ya + yb < yc := by omega
    have f8 : ¬ yc < ya := by omega
    have f9 : ¬ yc < yb := by omega
    clear f1 f2 f3 f4 f5 t1 t2 u1 u2 u3 u4 u5
    go_wp2_with (fail)
    all_goals
      clear f6 f7 f8 f9
      refine (Keeping_any w4 _ _ A A2 n c m c2 xs bs (hx.below B4 (Nat.le_refl _)) B4.size (hy.below B4 (Nat.le_refl _)) B4.size (nums_of Hc.out) (ups_of Hc.out) (by omega)).mono ?_
      rintro e w5 ⟨v5, rfl, hk5, hb⟩
      obtain ⟨A5, c5, rfl, hc5, i5⟩ := own_form hk5 (by omega)
      have B5 := B4.trans (hb.mono B4.size)
      have I5 := Lib.hid i5
      clear hk5 hb B4 i5
      go_wp2_with (fail)
      refine (Came_any w5 _ A n c xs (m : Int) (hx.below B5 (Nat.le_refl _)) B5.size).mono ?_
      rintro e w6 ⟨hP, hb⟩
      obtain ⟨g6, rfl, r6⟩ : ∃ g, e = .returned (.tuple #[.slice (some ⟨g, 0, none⟩) m m, .int .i64 0]) ∧ RowZ w6 g (ownL xs m) := by
        rcases hP with ⟨h, -⟩ | ⟨-, h, -⟩ | ⟨-, k, g, hk, -, -, e, hr⟩
        · exact absurd Hc.out h
        · exact absurd (by omega) h
        · obtain rfl : k = m := by omega
          exact ⟨g, e, hr⟩
      have B6 := B5.trans (hb.mono B5.size)
      have I6 := Lib.hid (r6.ints (ownL_len xs m) (by omega))
      have I5 := Lib.hid (ints_up I5.out hb)
      clear hP hb B5 r6
      go_wp2_with (fail)
      refine (Break_any w6 _ _ A _ n c m m xs (ownL xs m) (hx.below B6 (Nat.le_refl _)) B6.size I6.out (Nat.le_refl _) (Nat.le_refl _)).mono ?_
      rintro e w7 ⟨rfl, hb⟩
      rw [own_keeps Hc.out (show m ≤ 60 by omega)]
      have B7 := B6.trans (hb.mono B6.size)
      have I5 := Lib.hid (ints_up I5.out hb)
      have I6 := Lib.hid (ints_up I6.out hb)
      clear hb B6
      go_wp2_with (fail)
      refine (Break_any w7 _ _ A A5 n c m c5 xs (kepL xs bs m) (hx.below B7 (Nat.le_refl _)) B7.size I5.out (Nat.le_refl _) hc5).mono ?_
      rintro e w8 ⟨rfl, hb⟩
      rw [kep_none Hc.out hy.bound (show m ≤ 60 by omega)]
      have B8 := B7.trans (hb.mono B7.size)
      have I5 := Lib.hid (ints_up I5.out hb)
      have I6 := Lib.hid (ints_up I6.out hb)
      clear hb B7
      go_wp2_with (fail)
      refine (rSums_any w8 _ _ m m (ownL xs m) I6.out (Nat.le_refl _) (by omega) (fun j hj => by rw [preS_own Hc.out m j hj]; have := mst_nonneg (nums_of Hc.out) j; omega)).mono ?_
      rintro e w9 ⟨v9, rfl, hs9, hb⟩
      obtain ⟨A9, c9, rfl, -, i9⟩ := OwnZ.row hs9 (by rw [preL_len]; omega)
      rw [preL_len] at i9 ⊢
      have B9 := B8.trans (hb.mono B8.size)
      have I5 := Lib.hid (ints_up I5.out hb)
      have I9 := Lib.hid i9
      clear hb B8 hs9 i9
      go_wp2_with (fail)
      refine (rSums_any w9 _ A5 m c5 (kepL xs bs m) I5.out (Nat.le_refl _) (by omega) (fun j hj => by rw [preS_kep xs bs m j hj]; have := kepT_bound (nums_of Hc.out) (ups_of Hc.out) hy.bound j; omega)).mono ?_
      rintro e w10 ⟨v10, rfl, hs10, hb⟩
      obtain ⟨A10, c10, rfl, -, i10⟩ := OwnZ.row hs10 (by rw [preL_len]; omega)
      rw [preL_len] at i10 ⊢
      have B10 := B9.trans (hb.mono B9.size)
      have I9 := Lib.hid (ints_up I9.out hb)
      have I10 := Lib.hid i10
      clear hb B9 hs10 i10
      obtain ⟨K, hK⟩ : ∃ K, K = m + 1 := ⟨_, rfl⟩
      rw [← hK] at I9 I10 ⊢
      have HK := Lib.hid hK
      have hK21 : K ≤ 21 := by omega
      clear hK
      go_wp2_with (fail)
      go_loopg [28] K (fun g v28 wr => ∃ t : Nat, (t ≤ K ∧ g = K - t ∧ v28 = .int .i64 (t : Int)) ∧ Hid (IntsAt wr wr.heap.size A9 K (preL (ownL xs m) m) ∧ IntsAt wr wr.heap.size A10 K (preL (kepL xs bs m) m)) ∧ Below w.heap.size w wr)
      case atStart => exact ⟨0, ⟨by omega, rfl, rfl⟩, Lib.hid ⟨I9.out, I10.out⟩, B10⟩
      case round =>
        clear B10 I9 I10 I5 I6
        obtain ⟨t, ⟨ht, rfl, rfl⟩, hI, hb⟩ := hrel
        have hsz := hb.size
        by_cases hlt : t < K
        case neg =>
          go_wp2_with (fail)
          refine (Works_any wr).mono ?_
          rintro e wl ⟨rfl, hb2⟩
          go_wp2_with (fail)
          exact bodyPost_ret (results_tmp rfl _ _ _) rfl ⟨rfl, hb.trans (hb2.mono hsz)⟩
        case pos =>
          have hwt : IntKind.i64.wrap ((t : Int) + 1) = (t : Int) + 1 := by rw [IntKind.wrap_i64]; omega
          go_wp2_with (fail)
          refine (Most_any wr _ A n c xs (t : Int) (hx.below hb (Nat.le_refl _)) hsz).mono ?_
          rintro e w12 ⟨rfl, hb2⟩
          rw [mostR_at Hc.out (show t ≤ 200 by omega)]
          have hb3 := hb.trans (hb2.mono hsz)
          have j9 := ints_up hI.out.1 hb2
          have j10 := ints_up hI.out.2 hb2
          have J := Lib.hid (And.intro j9 j10)
          obtain ⟨b9, o9, rfl, -, c91⟩ := j9.cell hlt
          obtain ⟨b10, o10, rfl, -, c101⟩ := j10.cell hlt
          have htm : t ≤ m := by have := HK.out; omega
          rw [preL_get htm, preS_own Hc.out m t htm] at c91
          rw [preL_get htm, preS_kep xs bs m t htm] at c101
          have hle : kepT xs bs t ≤ mst xs t := by
            have := (kep_keeps (nums_of Hc.out) (ups_of Hc.out) hy.bound t).1 0 (Nat.zero_le _)
            have e0 : kepT xs bs 0 = 0 := rfl
            rw [Nat.sub_zero, e0] at this
            omega
          obtain ⟨x, hxe⟩ : ∃ x, x = mst xs t := ⟨_, rfl⟩
          obtain ⟨y, hye⟩ : ∃ y, y = kepT xs bs t := ⟨_, rfl⟩
          rw [← hxe] at c91 hle ⊢
          rw [← hye] at c101 hle
          have hnl : ¬ x < y := by omega
          clear hxe hye hb hb2 hI hle j9 j10
          go_wp2
          go_quiet (fail)
          go_wp2
          go_roundg (K - (t + 1))
          case measure => omega
          case rel => exact ⟨t + 1, ⟨by omega, rfl, by simp⟩, Lib.hid ⟨(J.out.1.below (below_drewN (D := w12.heap.size) w12 _) (Nat.le_refl _)), (J.out.2.below (below_drewN (D := w12.heap.size) w12 _) (Nat.le_refl _))⟩, hb3.trans (below_drewN _ _)⟩
end Go.Proofs.Ytlgibckhkdggdaa
