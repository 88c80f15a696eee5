/- Parts of a proof: OP OQ OR OS OT. -/
import Derived.Test.YtfidkgpimlpdbaaF9

/- odds: bestQuotes, deskOf. -/
namespace Go.Proofs.Ytfidkgpimlpdbaa
open Go.RowKit Go.Shelf

set_option maxHeartbeats 1000000 in
set_option maxRecDepth 20000 in
theorem bestQuotes_any (w : World) (B : Nat) (m : Int) (A : Option Addr) (n c : Nat) (mv : Value) (qs : List Qt) (hx : QtsAt w B A n qs) (hB : B ≤ w.heap.size) (V : ValidM m qs) :
    Calls Try.prog 109 #[.agg #[.int .i64 m, .slice A n c, mv]] w fun e w' => ∃ (mb : Nat) (o : Obj), e = .returned (.map (some mb)) ∧ Below w.heap.size w w' ∧ w'.heap[mb]? = some o ∧ MapO sideV idxV o (bestM qs qs.length) ∧ w.heap.size ≤ mb := by
  have hl := hx.1
  have hv := V.len
  refine enter 42 Try.func109 (by kernel_rfl) fun hA => ?_
  refine runS hA 23 [.k 0] xn on (by kernel_rfl) fun w1 hA => ?_
  refine loop (γ := Nat × Obj) (fun ⟨i, o⟩ => [(1, .pointer (some ⟨w.heap.size, 0, none⟩)), (2, .map none), (3, .map (some (w.heap.size + 1))), (12, .slice A n c), (13, .int .i64 n), (14, .int .i64 (i : Int))]) (fun ⟨i, o⟩ => [⟨w.heap.size, .cells #[.int .i64 m, .slice A n c, mv] 100 (0, 0)⟩, ⟨w.heap.size + 1, o⟩]) (fun _ => []) (fun g ⟨i, o⟩ wr => i ≤ n ∧ g = n - i ∧ MapO sideV idxV o (bestM qs i)) n ⟨0, .map #[] 0⟩ [true, true] hA (by kernel_rfl) (⟨by omega, rfl, MapO.new⟩) ?_
  rintro _ ⟨i, o⟩ wr ⟨hi, rfl, hmo⟩ J hJ hA
  by_cases hlt : i < n
  case neg =>
    obtain rfl : i = n := by omega
    refine runS hA 9 [.b false] xn (oc (dec_f (show ¬ (((i : Int) : Int) < (i : Int)) by omega)) on) (by kernel_rfl) fun w2 hA => ?_
    refine leave hA (by kernel_rfl) fun hA => ?_
    refine runS hA 9 [] xn on (by kernel_rfl) fun w3 hA => ?_
    exact ret (v := .map (some (w.heap.size + 1))) hA [] (by kernel_rfl) ⟨_, o, rfl, hA.below, hA.at_.ok ⟨w.heap.size + 1, o⟩ (List.mem_of_getElem? (i := 1) (by kernel_rfl)), by rw [hl]; exact hmo, by omega⟩
  case pos =>
    have hq9 := hx.at (hlt)
    obtain ⟨b, off, rfl, hlb, hcb⟩ := hq9
    have k0 := hcb 0 _ rfl
    have k1 := hcb 1 _ rfl
    have k2 := hcb 2 _ rfl
    have k3 := hcb 3 _ rfl
    have hlts := bestM_lt qs i
    refine runS hA 37 ([.b true, .i, .x (.int .i64 ((qs[i]?.getD noQ).r)), .x (.int .i64 ((qs[i]?.getD noQ).n)), .x (.int .i64 ((qs[i]?.getD noQ).d)), .x (.bool ((qs[i]?.getD noQ).lay))] ++ List.replicate 6 (.k 2) ++ List.replicate 4 (.k 3)) (xc (a := ⟨b, off + i * 4, none⟩) ⟨Nat.lt_of_lt_of_le hlb hB, k0⟩ (xc (a := ⟨b, off + i * 4 + 1, none⟩) ⟨Nat.lt_of_lt_of_le hlb hB, k1⟩ (xc (a := ⟨b, off + i * 4 + 2, none⟩) ⟨Nat.lt_of_lt_of_le hlb hB, k2⟩ (xc (a := ⟨b, off + i * 4 + 3, none⟩) ⟨Nat.lt_of_lt_of_le hlb hB, k3⟩ xn)))) (oc (dec_t (show (((i : Int) : Int) < (n : Int)) by omega)) (oc (show (0 : Int) ≤ ((i : Int) : Int) ∧ ((i : Int) : Int) < (n : Int) by omega) on)) (by kernel_rfl) fun w2 hA => ?_
    cases hfi : mfind (sideF (qs[i]?.getD noQ)) (bestM qs i) with
    | none =>
      refine mapLookOk (mt := 98) (et := 3) (p := (sideF (qs[i]?.getD noQ))) (b := (w.heap.size + 1)) (o := o) (α := Nat) (enc := idxV) hA keySide 1 hmo ((0 : Nat)) (fun _ => by kernel_rfl) (by kernel_rfl) fun hA => ?_
      refine revals hA (rc 27 (show .tuple #[.int .i64 ((mget 0 (bestM qs i) (sideF (qs[i]?.getD noQ)) : Nat) : Int), .bool ((mfind (sideF (qs[i]?.getD noQ)) (bestM qs i)).isSome)] = .tuple #[.int .i64 0, .bool false] by unfold mget; rw [hfi]; rfl) rn) (by kernel_rfl) fun hA => ?_
      refine runS hA 19 [.k 3, .k 3] xn on (by kernel_rfl) fun w3 hA => ?_
      refine mapSet (mt := 98) (et := 3) (p := (sideF (qs[i]?.getD noQ))) (v := i) (b := (w.heap.size + 1)) (o := o) (α := Nat) (enc := idxV) hA keySide 1 hmo (by kernel_rfl) fun o1 w4 hm1 hA => ?_
      refine runS hA 7 [.v (.int .i64 ((i : Int) + 1))] xn (oc (show Value.int .i64 (IntKind.i64.wrap ((i : Int) + 1)) = .int .i64 ((i : Int) + 1) from wrp (by omega)) on) (by kernel_rfl) fun w5 hA => ?_
      have e9 : bestM qs (i + 1) = mset (sideF (qs[i]?.getD noQ)) i (bestM qs i) := by show bstep qs (bestM qs i) i = _; unfold bstep; rw [hfi]
      refine revals hA (rc 14 (show .int .i64 ((i : Int) + 1) = .int .i64 ((i + 1 : Nat) : Int) by rw [show ((i + 1 : Nat) : Int) = (i : Int) + 1 by omega]) rn) (by kernel_rfl) fun hA => ?_
      exact again hJ (n - (i + 1)) (⟨i + 1, o1⟩) [true, true, false, false] hA (by omega) (by kernel_rfl) (⟨by omega, rfl, by rw [e9]; exact hm1⟩)
    | some r =>
      obtain ⟨ix, old⟩ := r
      have hold := (hlts _ (List.mem_of_getElem? (mfind_at hfi).2)).1
      simp only at hold
      refine mapLookOk (mt := 98) (et := 3) (p := (sideF (qs[i]?.getD noQ))) (b := (w.heap.size + 1)) (o := o) (α := Nat) (enc := idxV) hA keySide 1 hmo ((0 : Nat)) (fun _ => by kernel_rfl) (by kernel_rfl) fun hA => ?_
      refine revals hA (rc 27 (show .tuple #[.int .i64 ((mget 0 (bestM qs i) (sideF (qs[i]?.getD noQ)) : Nat) : Int), .bool ((mfind (sideF (qs[i]?.getD noQ)) (bestM qs i)).isSome)] = .tuple #[.int .i64 (old : Int), .bool true] by unfold mget; rw [hfi]; rfl) rn) (by kernel_rfl) fun hA => ?_
      refine runS hA 19 [.k 0, .k 0, .k 0] xn on (by kernel_rfl) fun w3 hA => ?_
      refine callB hA [] on (bestI_any w3 B m (some ⟨b, off, none⟩) n c mv qs i old w2.heap.size (hx.below hA.below hB) (Nat.le_trans hB hA.size) V hlt (by omega) (hA.at_.ok ⟨w2.heap.size, .cells #[.int .i64 (old : Int), .int .i64 (i : Int)] 3 (0, 0)⟩ (List.mem_of_getElem? (i := 4) (by kernel_rfl)))) (by kernel_rfl) fun w4 hb4 hA => ?_
      refine runS hA 7 [.k 3, .k 3] xn on (by kernel_rfl) fun w5 hA => ?_
      refine mapSet (mt := 98) (et := 3) (p := (sideF (qs[i]?.getD noQ))) (v := (if stricF qs i old then i else old)) (b := (w.heap.size + 1)) (o := o) (α := Nat) (enc := idxV) hA keySide 1 hmo (by kernel_rfl) fun o1 w6 hm1 hA => ?_
      refine runS hA 7 [.v (.int .i64 ((i : Int) + 1))] xn (oc (show Value.int .i64 (IntKind.i64.wrap ((i : Int) + 1)) = .int .i64 ((i : Int) + 1) from wrp (by omega)) on) (by kernel_rfl) fun w7 hA => ?_
      have e9 : bestM qs (i + 1) = mset (sideF (qs[i]?.getD noQ)) (if stricF qs i old then i else old) (bestM qs i) := by show bstep qs (bestM qs i) i = _; unfold bstep; rw [hfi]
      refine revals hA (rc 14 (show .int .i64 ((i : Int) + 1) = .int .i64 ((i + 1 : Nat) : Int) by rw [show ((i + 1 : Nat) : Int) = (i : Int) + 1 by omega]) rn) (by kernel_rfl) fun hA => ?_
      exact again hJ (n - (i + 1)) (⟨i + 1, o1⟩) [true, true, false, false, false] hA (by omega) (by kernel_rfl) (⟨by omega, rfl, by rw [e9]; exact hm1⟩)
def mktE (m : Int) (qs : List Qt) : Int := if ¬ (1 ≤ m ∧ m ≤ 5) ∨ 12 < (qs.length : Int) then 6 else if (qs.any fun q => !runF m q.r) = true then 2 else if (qs.any fun q => beyondF q.n q.d) = true then 3 else 0
theorem mkt_ok {m : Int} {qs : List Qt} (h : mktE m qs = 0) : ValidM m qs := by
  unfold mktE at h
  split at h
  · cases h
  · rename_i h1
    split at h
    · cases h
    · rename_i h2
      split at h
      · cases h
      · rename_i h3
        rw [Bool.not_eq_true, List.any_eq_false] at h2 h3
        refine ⟨by omega, by omega, fun q hq => ?_⟩
        have a := h2 q hq
        have b := h3 q hq
        simp only [runF, Bool.not_eq_true', decide_eq_false_iff_not] at a
        simp only [beyondF, Bool.or_eq_true, Bool.not_eq_true', decide_eq_false_iff_not] at b
        have a := by simpa using a
        omega
set_option maxHeartbeats 1000000 in
set_option maxRecDepth 20000 in
theorem deskOf_any (w : World) (B : Nat) (m : Int) (A : Option Addr) (n c : Nat) (qs : List Qt) (hx : QtsAt w B A n qs) (hB : B ≤ w.heap.size) (hr : ∀ q ∈ qs, -9223372036854775808 ≤ q.r ∧ q.r ≤ 9223372036854775807) :
    Calls Try.prog 88 #[.agg #[.int .i64 m, .slice A n c]] w fun e w' => Below w.heap.size w w' ∧ (mktE m qs ≠ 0 → e = .returned (.tuple #[.agg #[.int .i64 0, .slice none 0 0, .map none], .int .i64 (mktE m qs)])) ∧
      (mktE m qs = 0 → ∃ (mb : Nat) (o : Obj), e = .returned (.tuple #[.agg #[.int .i64 m, .slice A n c, .map (some mb)], .int .i64 0]) ∧ w'.heap[mb]? = some o ∧ MapO sideV idxV o (bestM qs qs.length) ∧ w.heap.size ≤ mb) := by
  have hl := hx.1
  have hn9 := hx.2.1
  refine enter 37 Try.func88 (by kernel_rfl) fun hA => ?_
  refine runS hA 22 ([.k 0, .k 0] ++ List.replicate 4 (.k 2)) xn on (by kernel_rfl) fun w1 hA => ?_
  have hwi := within_c w1 w1.heap.size 1 5 (some ⟨w.heap.size + 3, 0, none⟩) 1 1 [m] (ints1 (hA.at_.ok ⟨w.heap.size + 3, .cells #[.int .i64 m] 2 (0, 0)⟩ (List.mem_of_getElem? (i := 3) (by kernel_rfl)))) (Nat.le_refl _)
  rw [within1] at hwi
  refine callB hA [] on (hwi) (by kernel_rfl) fun w2 hb2 hA => ?_
  refine runS hA 2 [.t 0] xn on (by kernel_rfl) fun w3 hA => ?_
  by_cases ht1 : 1 ≤ (m : Int) ∧ (m : Int) ≤ 5
  case pos =>
    refine runS hA 8 [.g false, .g false, .g false, .k 2, .g false, .g false, .t 0] xn (oc (show Value.bool (!(decide (1 ≤ (m : Int) ∧ (m : Int) ≤ 5))) = .bool false by rw [show decide (1 ≤ (m : Int) ∧ (m : Int) ≤ 5) = true from decide_eq_true ht1] <;> rfl) (oc (rfl : Value.bool false = .bool false) (oc (rfl : Value.bool false = .bool false) (oc (rfl : Value.bool false = .bool false) (oc (rfl : Value.bool false = .bool false) on))))) (by kernel_rfl) fun w4 hA => ?_
    by_cases ht2 : (n : Int) > (12 : Int)
    case pos =>
      refine runS hA 10 [.b true, .k 1, .k 1, .k 1] xn (oc (dec_t ht2) on) (by kernel_rfl) fun w5 hA => ?_
      have hE : mktE m qs = 6 := by
        unfold mktE
        rw [if_pos (by omega)]
      exact ret (v := .tuple #[.agg #[.int .i64 0, .slice none 0 0, .map none], .int .i64 6]) hA [.k 1, .k 1, .k 1] (by kernel_rfl) ⟨hA.below, fun _ => by rw [hE], fun h => absurd (hE.symm.trans h) (by decide)⟩
    case neg =>
      refine runS hA 11 ([.b false] ++ List.replicate 4 (.k 2)) xn (oc (dec_f ht2) on) (by kernel_rfl) fun w5 hA => ?_
      refine callB hA [] on (containsS_any w5 B A n c qs (fun q => !runF m q.r) (.agg #[.int .i64 m, .slice A n c, .map none]) (hx.below hA.below hB) (Nat.le_trans hB hA.size) (fun W hW x hxm => isStray_any W m A n c (.map none) x.r x.n x.d x.lay (by omega) (hr x hxm))) (by kernel_rfl) fun w6 hb6 hA => ?_
      refine runS hA 2 [.t 0] xn on (by kernel_rfl) fun w7 hA => ?_
      have hq9 := Bool.eq_false_or_eq_true ((qs.any fun q => !runF m q.r))
      rcases hq9 with ht3 | ht3
      ·
        refine runS hA 10 [.b true, .k 1, .k 1, .k 1] xn (oc (show Value.bool (qs.any fun q => !runF m q.r) = .bool true by rw [ht3] <;> rfl) on) (by kernel_rfl) fun w8 hA => ?_
        have hE : mktE m qs = 2 := by
          unfold mktE
          rw [if_neg (by omega), if_pos ht3]
        exact ret (v := .tuple #[.agg #[.int .i64 0, .slice none 0 0, .map none], .int .i64 2]) hA [.k 1, .k 1, .k 1] (by kernel_rfl) ⟨hA.below, fun _ => by rw [hE], fun h => absurd (hE.symm.trans h) (by decide)⟩
      ·
        refine runS hA 9 [.b false, .k 2] xn (oc (show Value.bool (qs.any fun q => !runF m q.r) = .bool false by rw [ht3] <;> rfl) on) (by kernel_rfl) fun w8 hA => ?_
        refine callB hA [] on (containsB_any w8 B A n c qs (fun q => beyondF q.n q.d) (hx.below hA.below hB) (Nat.le_trans hB hA.size) (fun W hW x hxm => isBeyond_any W x.r x.n x.d x.lay)) (by kernel_rfl) fun w9 hb9 hA => ?_
        refine runS hA 2 [.t 0] xn on (by kernel_rfl) fun w10 hA => ?_
        have hq9 := Bool.eq_false_or_eq_true ((qs.any fun q => beyondF q.n q.d))
        rcases hq9 with ht4 | ht4
        ·
          refine runS hA 10 [.b true, .k 1, .k 1, .k 1] xn (oc (show Value.bool (qs.any fun q => beyondF q.n q.d) = .bool true by rw [ht4] <;> rfl) on) (by kernel_rfl) fun w11 hA => ?_
          have hE : mktE m qs = 3 := by
            unfold mktE
            rw [if_neg (by omega), if_neg (by rw [ht3]; decide), if_pos ht4]
          exact ret (v := .tuple #[.agg #[.int .i64 0, .slice none 0 0, .map none], .int .i64 3]) hA [.k 1, .k 1, .k 1] (by kernel_rfl) ⟨hA.below, fun _ => by rw [hE], fun h => absurd (hE.symm.trans h) (by decide)⟩
        ·
          refine runS hA 6 [.b false, .k 2, .k 2, .k 2] xn (oc (show Value.bool (qs.any fun q => beyondF q.n q.d) = .bool false by rw [ht4] <;> rfl) on) (by kernel_rfl) fun w11 hA => ?_
          have hE : mktE m qs = 0 := by unfold mktE; rw [if_neg (by omega), if_neg (by rw [ht3]; decide), if_neg (by rw [ht4]; decide)]
          have V := mkt_ok hE
          have hAp := hA.atK [⟨w.heap.size, .cells #[.int .i64 m, .slice A n c] 44 (0, 0)⟩, ⟨w.heap.size + 1, .cells #[.int .i64 0, .slice none 0 0, .map none] 100 (0, 0)⟩, ⟨w.heap.size + 2, .cells #[.int .i64 m, .slice A n c, .map none] 100 (0, 0)⟩, ⟨w.heap.size + 3, .cells #[.int .i64 m] 2 (0, 0)⟩] (by kernel_rfl)
          refine call hA [] on (bestQuotes_any w11 B m A n c (.map none) qs (hx.below hA.below hB) (Nat.le_trans hB hA.size) V) (by kernel_rfl) (by rintro e v ⟨mb, o, rfl, hbm, hmb, hmo, hmg⟩; exact hbm) ?_
          rintro e w12 ⟨mb, o, rfl, hbm, hmb, hmo, hmg⟩
          refine ⟨_, rfl, fun hA => ?_⟩
          have hml : mb < w12.heap.size := (Array.getElem?_eq_some_iff.1 hmb).1
          replace hA := hA.allK [⟨w.heap.size, .cells #[.int .i64 m, .slice A n c] 44 (0, 0)⟩, ⟨w.heap.size + 1, .cells #[.int .i64 0, .slice none 0 0, .map none] 100 (0, 0)⟩, ⟨w.heap.size + 2, .cells #[.int .i64 m, .slice A n c, .map none] 100 (0, 0)⟩, ⟨w.heap.size + 3, .cells #[.int .i64 m] 2 (0, 0)⟩] (by kernel_rfl)
          have hA2 := hA.atK [⟨w.heap.size, .cells #[.int .i64 m, .slice A n c] 44 (0, 0)⟩, ⟨w.heap.size + 1, .cells #[.int .i64 0, .slice none 0 0, .map none] 100 (0, 0)⟩, ⟨w.heap.size + 2, .cells #[.int .i64 m, .slice A n c, .map none] 100 (0, 0)⟩, ⟨w.heap.size + 3, .cells #[.int .i64 m] 2 (0, 0)⟩] (by kernel_rfl)
          refine runS hA 12 (List.replicate 4 (.k 2) ++ [.k 1, .k 1, .k 1]) xn on (by kernel_rfl) fun w13 hA => ?_
          have hmn : mb ∉ ([⟨w.heap.size, .cells #[.int .i64 m, .slice A n c] 44 (0, 0)⟩, ⟨w.heap.size + 1, .cells #[.int .i64 0, .slice none 0 0, .map none] 100 (0, 0)⟩, ⟨w.heap.size + 2, .cells #[.int .i64 m, .slice A n c, .map none] 100 (0, 0)⟩, ⟨w.heap.size + 3, .cells #[.int .i64 m] 2 (0, 0)⟩] : List KB).map KB.id := fun hm => by
            have hq9 := List.mem_map.1 hm
            obtain ⟨kb9, hk9, he9⟩ := hq9
            have h9 := hAp.lt hk9; omega
          have hs8 : w.heap.size ≤ w11.heap.size := hAp.below.size
          have hmb9 := others_block hA2 hA.at_ hmb hmn
          have hb9 := hA.below
          exact ret (v := .tuple #[.agg #[.int .i64 m, .slice A n c, .map (some mb)], .int .i64 0]) hA [.k 1, .k 1, .k 1] (by kernel_rfl) ⟨hA.below, fun h => absurd hE h, fun _ => ⟨mb, o, rfl, hmb9, hmo, by omega⟩⟩
  case neg =>
    refine runS hA 18 (List.replicate 5 (.g true) ++ [.k 1, .k 1, .k 1]) xn (oc (show Value.bool (!(decide (1 ≤ (m : Int) ∧ (m : Int) ≤ 5))) = .bool true by rw [show decide (1 ≤ (m : Int) ∧ (m : Int) ≤ 5) = false from decide_eq_false ht1] <;> rfl) (oc (rfl : Value.bool true = .bool true) (oc (rfl : Value.bool true = .bool true) (oc (rfl : Value.bool true = .bool true) (oc (rfl : Value.bool true = .bool true) on))))) (by kernel_rfl) fun w4 hA => ?_
    have hE : mktE m qs = 6 := by
      unfold mktE
      rw [if_pos (by omega)]
    exact ret (v := .tuple #[.agg #[.int .i64 0, .slice none 0 0, .map none], .int .i64 6]) hA [.k 1, .k 1, .k 1] (by kernel_rfl) ⟨hA.below, fun _ => by rw [hE], fun h => absurd (hE.symm.trans h) (by decide)⟩
end Go.Proofs.Ytfidkgpimlpdbaa

/- odds: deskWith, CheckMarket, Net, CheckStakes. -/
namespace Go.Proofs.Ytfidkgpimlpdbaa
open Go.RowKit Go.Shelf

theorem At.know {w0 w w' : World} {kn rows : List KB} {sz mb : Nat} {ob : Obj} (h : At w0 w kn rows sz) (hb : Below w.heap.size w w') (ho : w'.heap[mb]? = some ob) (hm : w.heap.size ≤ mb) : At w0 w' (kn ++ [⟨mb, ob⟩]) rows w'.heap.size := by
  have h' := h.call hb
  refine ⟨fun kb hk => ?_, h'.rok, fun kb hk => ?_, h'.rlow, ?_, rfl, h'.below⟩
  · rcases List.mem_append.1 hk with hk | hk
    · exact h'.ok kb hk
    · rw [List.mem_singleton.1 hk]; exact ho
  · rcases List.mem_append.1 hk with hk | hk
    · exact h'.low kb hk
    · rw [List.mem_singleton.1 hk]; exact Nat.le_trans h.below.size hm
  · rw [← List.append_assoc, List.map_append, List.nodup_append]
    refine ⟨h'.nd, by simp, ?_⟩
    intro a ha b hb2 e
    simp only [List.map_cons, List.map_nil, List.mem_singleton] at hb2
    subst hb2
    obtain ⟨kb, hkb, rfl⟩ := List.mem_map.1 ha
    have hlt : kb.id < w.heap.size := by
      rcases List.mem_append.1 hkb with hk | hk
      · exact h.rlt hk
      · exact h.lt hk
    omega
theorem deskOf_bad (w : World) (B : Nat) (m : Int) (A : Option Addr) (n c : Nat) (qs : List Qt) (hx : QtsAt w B A n qs) (hB : B ≤ w.heap.size) (hr : ∀ q ∈ qs, -9223372036854775808 ≤ q.r ∧ q.r ≤ 9223372036854775807) (hE : mktE m qs ≠ 0) : Calls Try.prog 88 #[.agg #[.int .i64 m, .slice A n c]] w fun e w' => e = .returned (.tuple #[.agg #[.int .i64 0, .slice none 0 0, .map none], .int .i64 (mktE m qs)]) ∧ Below w.heap.size w w' :=
  (deskOf_any w B m A n c qs hx hB hr).mono fun _ _ h => ⟨h.2.1 hE, h.1⟩
theorem deskOf_ok (w : World) (B : Nat) (m : Int) (A : Option Addr) (n c : Nat) (qs : List Qt) (hx : QtsAt w B A n qs) (hB : B ≤ w.heap.size) (hr : ∀ q ∈ qs, -9223372036854775808 ≤ q.r ∧ q.r ≤ 9223372036854775807) (hE : mktE m qs = 0) : Calls Try.prog 88 #[.agg #[.int .i64 m, .slice A n c]] w fun e w' => ∃ (mb : Nat) (o : Obj), e = .returned (.tuple #[.agg #[.int .i64 m, .slice A n c, .map (some mb)], .int .i64 0]) ∧ Below w.heap.size w w' ∧ w'.heap[mb]? = some o ∧ MapO sideV idxV o (bestM qs qs.length) ∧ w.heap.size ≤ mb :=
  (deskOf_any w B m A n c qs hx hB hr).mono fun _ _ h => by
    obtain ⟨mb, o, h1, h2, h3, h4⟩ := h.2.2 hE
    exact ⟨mb, o, h1, h.1, h2, h3, h4⟩
def stkE (m : Int) (qs : List Qt) (ss : List Int) : Int := if mktE m qs ≠ 0 then mktE m qs else if ss.length ≠ qs.length then 15 else if withinF 0 1099511627776 ss = false then 3 else 0
theorem stk_ok {m : Int} {qs : List Qt} {ss : List Int} (h : stkE m qs ss = 0) : mktE m qs = 0 ∧ Stk qs.length ss := by
  unfold stkE at h
  split at h
  · rename_i h1; exact absurd h h1
  · rename_i h1
    split at h
    · cases h
    · rename_i h2
      split at h
      · cases h
      · rename_i h3
        exact ⟨by omega, by omega, within_all (by simpa using h3)⟩
set_option maxRecDepth 20000 in
theorem CheckMarket_any (w : World) (B : Nat) (m : Int) (A : Option Addr) (n c : Nat) (qs : List Qt) (hx : QtsAt w B A n qs) (hB : B ≤ w.heap.size) (hr : ∀ q ∈ qs, -9223372036854775808 ≤ q.r ∧ q.r ≤ 9223372036854775807) : Calls Try.prog 35 #[.agg #[.int .i64 m, .slice A n c]] w fun e w' => e = .returned (.int .i64 (mktE m qs)) ∧ Below w.heap.size w w' := by
  have hl := hx.1
  have hn9 := hx.2.1
  refine enter 11 Try.func35 (by kernel_rfl) fun hA => ?_
  refine runS hA 9 [.k 0, .k 0] xn on (by kernel_rfl) fun w1 hA => ?_
  by_cases hE : mktE m qs = 0
  case pos =>
    have V := mkt_ok hE
    have hAp_mb := hA.atK [⟨w.heap.size, .cells #[.int .i64 m, .slice A n c] 44 (0, 0)⟩] (by kernel_rfl)
    refine call hA [] on (deskOf_ok w1 B m A n c qs (hx.below hA.below hB) (Nat.le_trans hB hA.size) hr hE) (by kernel_rfl) (by rintro e v ⟨mb, o, rfl, hbm, hmb, hmo, hmg⟩; exact hbm) ?_
    rintro e w2 ⟨mb, o, rfl, hbm, hmb, hmo, hmg⟩
    refine ⟨_, rfl, fun hA => ?_⟩
    have hAq_mb := At.know hAp_mb hbm hmb hmg
    refine reknow ⟨[⟨w.heap.size, .cells #[.int .i64 m, .slice A n c] 44 (0, 0)⟩, ⟨mb, o⟩], w2.heap.size, [], [], [], [], []⟩ hAq_mb (Nat.zero_le _) fun hA => ?_
    refine runS hA 15 [.k 2, .k 2, .k 2] xn on (by kernel_rfl) fun w3 hA => ?_
    exact ret (v := .int .i64 0) hA [] (by kernel_rfl) ⟨by rw [hE], hA.below⟩
  case neg =>
    refine callB hA [] on (deskOf_bad w1 B m A n c qs (hx.below hA.below hB) (Nat.le_trans hB hA.size) hr hE) (by kernel_rfl) fun w2 hb2 hA => ?_
    refine runS hA 15 [.k 1, .k 1, .k 1] xn on (by kernel_rfl) fun w3 hA => ?_
    exact ret (v := .int .i64 (mktE m qs)) hA [] (by kernel_rfl) ⟨by rfl, hA.below⟩
set_option maxHeartbeats 1000000 in
set_option maxRecDepth 20000 in
theorem deskWith_any (w : World) (B : Nat) (m : Int) (A : Option Addr) (n c : Nat) (qs : List Qt) (A2 : Option Addr) (n2 c2 : Nat) (ss : List Int) (hx : QtsAt w B A n qs) (hB : B ≤ w.heap.size) (hr : ∀ q ∈ qs, -9223372036854775808 ≤ q.r ∧ q.r ≤ 9223372036854775807) (hs : IntsAt w B A2 n2 ss) : Calls Try.prog 83 #[.agg #[.int .i64 m, .slice A n c], .slice A2 n2 c2] w fun e w' => Below w.heap.size w w' ∧ (stkE m qs ss ≠ 0 → e = .returned (.tuple #[.agg #[.int .i64 0, .slice none 0 0, .map none], .int .i64 (stkE m qs ss)])) ∧
      (stkE m qs ss = 0 → ∃ (mb : Nat) (o : Obj), e = .returned (.tuple #[.agg #[.int .i64 m, .slice A n c, .map (some mb)], .int .i64 0]) ∧ w'.heap[mb]? = some o ∧ MapO sideV idxV o (bestM qs qs.length) ∧ w.heap.size ≤ mb) := by
  have hl := hx.1
  have hn9 := hx.2.1
  have hl2 := hs.1
  have hn2 := hs.2.1
  refine enter 30 Try.func83 (by kernel_rfl) fun hA => ?_
  refine runS hA 10 [.k 0, .k 0] xn on (by kernel_rfl) fun w1 hA => ?_
  by_cases hE : mktE m qs = 0
  case pos =>
    have V := mkt_ok hE
    have hAp_mb := hA.atK [⟨w.heap.size, .cells #[.int .i64 m, .slice A n c] 44 (0, 0)⟩, ⟨w.heap.size + 1, .cells #[.int .i64 0, .slice none 0 0, .map none] 100 (0, 0)⟩] (by kernel_rfl)
    refine call hA [] on (deskOf_ok w1 B m A n c qs (hx.below hA.below hB) (Nat.le_trans hB hA.size) hr hE) (by kernel_rfl) (by rintro e v ⟨mb, o, rfl, hbm, hmb, hmo, hmg⟩; exact hbm) ?_
    rintro e w2 ⟨mb, o, rfl, hbm, hmb, hmo, hmg⟩
    refine ⟨_, rfl, fun hA => ?_⟩
    have hAq_mb := At.know hAp_mb hbm hmb hmg
    refine reknow ⟨[⟨w.heap.size, .cells #[.int .i64 m, .slice A n c] 44 (0, 0)⟩, ⟨w.heap.size + 1, .cells #[.int .i64 0, .slice none 0 0, .map none] 100 (0, 0)⟩, ⟨mb, o⟩], w2.heap.size, [], [], [], [], []⟩ hAq_mb (Nat.zero_le _) fun hA => ?_
    refine runS hA 30 (List.replicate 4 (.k 3) ++ [.t 0]) xn on (by kernel_rfl) fun w3 hA => ?_
    by_cases ht1 : n2 = (n : Int)
    case pos =>
      refine runS hA 7 [.b false] xn (oc (ne_f ht1) on) (by kernel_rfl) fun w4 hA => ?_
      refine callB hA [] on (within_c w4 B 0 1099511627776 A2 n2 c2 ss (hs.below hA.below hB) (Nat.le_trans hB hA.size)) (by kernel_rfl) fun w5 hb5 hA => ?_
      refine runS hA 3 [.t 0] xn on (by kernel_rfl) fun w6 hA => ?_
      have hq9 := Bool.eq_false_or_eq_true ((withinF 0 1099511627776 ss))
      rcases hq9 with ht2 | ht2
      ·
        refine runS hA 11 [.b false, .k 3, .k 3, .k 3, .k 1, .k 1, .k 1] xn (oc (show Value.bool (!(withinF 0 1099511627776 ss)) = .bool false by rw [ht2] <;> rfl) on) (by kernel_rfl) fun w7 hA => ?_
        have hS : stkE m qs ss = 0 := by unfold stkE; rw [if_neg (by omega), if_neg (by omega), if_neg (by rw [ht2]; decide)]
        have hg9 := hAp_mb.below.size
        exact ret (v := .tuple #[.agg #[.int .i64 m, .slice A n c, .map (some mb)], .int .i64 0]) hA [.k 1, .k 1, .k 1] (by kernel_rfl) ⟨hA.below, fun h => absurd hS h, fun _ => ⟨mb, o, rfl, (hA.at_.ok ⟨mb, o⟩ (List.mem_of_getElem? (i := 2) (by kernel_rfl))), hmo, Nat.le_trans hg9 hmg⟩⟩
      ·
        refine runS hA 10 [.b true, .k 1, .k 1, .k 1] xn (oc (show Value.bool (!(withinF 0 1099511627776 ss)) = .bool true by rw [ht2] <;> rfl) on) (by kernel_rfl) fun w7 hA => ?_
        have hS : stkE m qs ss = 3 := by unfold stkE; rw [if_neg (by omega), if_neg (by omega), if_pos ht2]
        exact ret (v := .tuple #[.agg #[.int .i64 0, .slice none 0 0, .map none], .int .i64 3]) hA [.k 1, .k 1, .k 1] (by kernel_rfl) ⟨hA.below, fun _ => by rw [hS], fun h => absurd (hS.symm.trans h) (by decide)⟩
    case neg =>
      refine runS hA 10 [.b true, .k 1, .k 1, .k 1] xn (oc (ne_t ht1) on) (by kernel_rfl) fun w4 hA => ?_
      have hS : stkE m qs ss = 15 := by unfold stkE; rw [if_neg (by omega), if_pos (by omega)]
      exact ret (v := .tuple #[.agg #[.int .i64 0, .slice none 0 0, .map none], .int .i64 15]) hA [.k 1, .k 1, .k 1] (by kernel_rfl) ⟨hA.below, fun _ => by rw [hS], fun h => absurd (hS.symm.trans h) (by decide)⟩
  case neg =>
    refine callB hA [] on (deskOf_bad w1 B m A n c qs (hx.below hA.below hB) (Nat.le_trans hB hA.size) hr hE) (by kernel_rfl) fun w2 hb2 hA => ?_
    refine runS hA 15 [.k 2, .k 2, .k 2, .t 0] xn on (by kernel_rfl) fun w3 hA => ?_
    by_cases ht3 : (mktE m qs) = (0 : Int)
    case pos =>
      omega
    case neg =>
      refine runS hA 11 [.b true, .k 1, .k 1, .k 1] xn (oc (ne_t ht3) on) (by kernel_rfl) fun w4 hA => ?_
      have hS : stkE m qs ss = mktE m qs := by unfold stkE; rw [if_pos hE]
      exact ret (v := .tuple #[.agg #[.int .i64 0, .slice none 0 0, .map none], .int .i64 (mktE m qs)]) hA [.k 1, .k 1, .k 1] (by kernel_rfl) ⟨hA.below, fun _ => by rw [hS], fun h => absurd (hS.symm.trans h) hE⟩
theorem deskWith_bad (w : World) (B : Nat) (m : Int) (A : Option Addr) (n c : Nat) (qs : List Qt) (A2 : Option Addr) (n2 c2 : Nat) (ss : List Int) (hx : QtsAt w B A n qs) (hB : B ≤ w.heap.size) (hr : ∀ q ∈ qs, -9223372036854775808 ≤ q.r ∧ q.r ≤ 9223372036854775807) (hs : IntsAt w B A2 n2 ss) (hE : stkE m qs ss ≠ 0) : Calls Try.prog 83 #[.agg #[.int .i64 m, .slice A n c], .slice A2 n2 c2] w fun e w' => e = .returned (.tuple #[.agg #[.int .i64 0, .slice none 0 0, .map none], .int .i64 (stkE m qs ss)]) ∧ Below w.heap.size w w' :=
  (deskWith_any w B m A n c qs A2 n2 c2 ss hx hB hr hs).mono fun _ _ h => ⟨h.2.1 hE, h.1⟩
theorem deskWith_ok (w : World) (B : Nat) (m : Int) (A : Option Addr) (n c : Nat) (qs : List Qt) (A2 : Option Addr) (n2 c2 : Nat) (ss : List Int) (hx : QtsAt w B A n qs) (hB : B ≤ w.heap.size) (hr : ∀ q ∈ qs, -9223372036854775808 ≤ q.r ∧ q.r ≤ 9223372036854775807) (hs : IntsAt w B A2 n2 ss) (hE : stkE m qs ss = 0) : Calls Try.prog 83 #[.agg #[.int .i64 m, .slice A n c], .slice A2 n2 c2] w fun e w' => ∃ (mb : Nat) (o : Obj), e = .returned (.tuple #[.agg #[.int .i64 m, .slice A n c, .map (some mb)], .int .i64 0]) ∧ Below w.heap.size w w' ∧ w'.heap[mb]? = some o ∧ MapO sideV idxV o (bestM qs qs.length) ∧ w.heap.size ≤ mb :=
  (deskWith_any w B m A n c qs A2 n2 c2 ss hx hB hr hs).mono fun _ _ h => by
    obtain ⟨mb, o, h1, h2, h3, h4⟩ := h.2.2 hE
    exact ⟨mb, o, h1, h.1, h2, h3, h4⟩
def netE (m : Int) (qs : List Qt) (ss : List Int) (r : Int) : Int := if stkE m qs ss ≠ 0 then stkE m qs ss else if runF m r = false then 2 else 0
def netA (m : Int) (qs : List Qt) (ss : List Int) (r : Int) : Rt := if netE m qs ss r = 0 then ratF (netF qs ss r) 2520 else (0, 0)
def csE (m : Int) (qs : List Qt) (ss : List Int) : Int := if stkE m qs ss ≠ 0 then stkE m qs ss else if winF qs ss m.toNat = false then 14 else 0
set_option maxHeartbeats 1000000 in
set_option maxRecDepth 20000 in
theorem Net_any (w : World) (B : Nat) (m : Int) (A : Option Addr) (n c : Nat) (qs : List Qt) (A2 : Option Addr) (n2 c2 : Nat) (ss : List Int) (r : Int) (hx : QtsAt w B A n qs) (hB : B ≤ w.heap.size) (hr : ∀ q ∈ qs, -9223372036854775808 ≤ q.r ∧ q.r ≤ 9223372036854775807) (hs : IntsAt w B A2 n2 ss) (hrr : -9223372036854775808 ≤ r ∧ r ≤ 9223372036854775807) : Calls Try.prog 33 #[.agg #[.int .i64 m, .slice A n c], .slice A2 n2 c2, .int .i64 r] w fun e w' => e = .returned (.tuple #[.agg #[.int .i64 (netA m qs ss r).1, .int .i64 (netA m qs ss r).2], .int .i64 (netE m qs ss r)]) ∧ Below w.heap.size w w' := by
  have hl := hx.1
  have hn9 := hx.2.1
  have hl2 := hs.1
  have hn2 := hs.2.1
  refine enter 30 Try.func33 (by kernel_rfl) fun hA => ?_
  refine runS hA 11 [.k 0, .k 0] xn on (by kernel_rfl) fun w1 hA => ?_
  by_cases hE : stkE m qs ss = 0
  case pos =>
    have hS9 := stk_ok hE
    have V := mkt_ok hS9.1
    have S := hS9.2
    have hS1 := S.1
    have hAp_mb := hA.atK [⟨w.heap.size, .cells #[.int .i64 m, .slice A n c] 44 (0, 0)⟩, ⟨w.heap.size + 1, .cells #[.int .i64 0, .int .i64 0] 23 (0, 0)⟩] (by kernel_rfl)
    refine call hA [] on (deskWith_ok w1 B m A n c qs A2 n2 c2 ss (hx.below hA.below hB) (Nat.le_trans hB hA.size) hr (hs.below hA.below hB) hE) (by kernel_rfl) (by rintro e v ⟨mb, o, rfl, hbm, hmb, hmo, hmg⟩; exact hbm) ?_
    rintro e w2 ⟨mb, o, rfl, hbm, hmb, hmo, hmg⟩
    refine ⟨_, rfl, fun hA => ?_⟩
    have hAq_mb := At.know hAp_mb hbm hmb hmg
    refine reknow ⟨[⟨w.heap.size, .cells #[.int .i64 m, .slice A n c] 44 (0, 0)⟩, ⟨w.heap.size + 1, .cells #[.int .i64 0, .int .i64 0] 23 (0, 0)⟩, ⟨mb, o⟩], w2.heap.size, [], [], [], [], []⟩ hAq_mb (Nat.zero_le _) fun hA => ?_
    refine runS hA 23 (List.replicate 6 (.k 3)) xn on (by kernel_rfl) fun w3 hA => ?_
    have hfew := V.few
    refine callB hA [] on (isRunner_any w3 m A n c (.map (some mb)) r ((by omega)) (hrr)) (by kernel_rfl) fun w4 hb4 hA => ?_
    refine runS hA 3 [.t 0] xn on (by kernel_rfl) fun w5 hA => ?_
    have hq9 := Bool.eq_false_or_eq_true ((runF m r))
    rcases hq9 with ht1 | ht1
    ·
      refine runS hA 8 [.b false, .k 3, .k 3, .k 3] xn (oc (show Value.bool (!(runF m r)) = .bool false by rw [ht1] <;> rfl) on) (by kernel_rfl) fun w6 hA => ?_
      have hN : netE m qs ss r = 0 := by unfold netE; rw [if_neg (by omega), if_neg (by rw [ht1]; decide)]
      have hbd := netF_bd (r := r) V S
      obtain rfl : n2 = n := by omega
      refine callB hA [] on (net_any w6 B m A n2 c (.map (some mb)) qs A2 c2 ss r (hx.below hA.below hB) (Nat.le_trans hB hA.size) V (hs.below hA.below hB) S) (by kernel_rfl) fun w7 hb7 hA => ?_
      refine callB hA [] on (ratio_any w7 (netF qs ss r) 2520 (by omega) (by omega)) (by kernel_rfl) fun w8 hb8 hA => ?_
      refine runS hA 5 [.k 1, .k 1] xn on (by kernel_rfl) fun w9 hA => ?_
      exact ret (v := .tuple #[.agg #[.int .i64 ((ratF (netF qs ss r) 2520).1), .int .i64 ((ratF (netF qs ss r) 2520).2)], .int .i64 0]) hA [.k 1, .k 1] (by kernel_rfl) ⟨by unfold netA; rw [hN, if_pos rfl], hA.below⟩
    ·
      refine runS hA 10 [.b true, .k 1, .k 1] xn (oc (show Value.bool (!(runF m r)) = .bool true by rw [ht1] <;> rfl) on) (by kernel_rfl) fun w6 hA => ?_
      have hN : netE m qs ss r = 2 := by unfold netE; rw [if_neg (by omega), if_pos ht1]
      exact ret (v := .tuple #[.agg #[.int .i64 0, .int .i64 0], .int .i64 2]) hA [.k 1, .k 1] (by kernel_rfl) ⟨by unfold netA; rw [hN, if_neg (by decide)], hA.below⟩
  case neg =>
    refine callB hA [] on (deskWith_bad w1 B m A n c qs A2 n2 c2 ss (hx.below hA.below hB) (Nat.le_trans hB hA.size) hr (hs.below hA.below hB) hE) (by kernel_rfl) fun w2 hb2 hA => ?_
    refine runS hA 15 [.k 2, .k 2, .k 2, .t 0] xn on (by kernel_rfl) fun w3 hA => ?_
    by_cases ht2 : (stkE m qs ss) = (0 : Int)
    case pos =>
      omega
    case neg =>
      refine runS hA 11 [.b true, .k 1, .k 1] xn (oc (ne_t ht2) on) (by kernel_rfl) fun w4 hA => ?_
      have hN : netE m qs ss r = stkE m qs ss := by unfold netE; rw [if_pos hE]
      exact ret (v := .tuple #[.agg #[.int .i64 0, .int .i64 0], .int .i64 (stkE m qs ss)]) hA [.k 1, .k 1] (by kernel_rfl) ⟨by unfold netA; rw [hN, if_neg hE], hA.below⟩
set_option maxHeartbeats 1000000 in
set_option maxRecDepth 20000 in
theorem CheckStakes_any (w : World) (B : Nat) (m : Int) (A : Option Addr) (n c : Nat) (qs : List Qt) (A2 : Option Addr) (n2 c2 : Nat) (ss : List Int) (hx : QtsAt w B A n qs) (hB : B ≤ w.heap.size) (hr : ∀ q ∈ qs, -9223372036854775808 ≤ q.r ∧ q.r ≤ 9223372036854775807) (hs : IntsAt w B A2 n2 ss) : Calls Try.prog 37 #[.agg #[.int .i64 m, .slice A n c], .slice A2 n2 c2] w fun e w' => e = .returned (.int .i64 (csE m qs ss)) ∧ Below w.heap.size w w' := by
  have hl := hx.1
  have hn9 := hx.2.1
  have hl2 := hs.1
  have hn2 := hs.2.1
  refine enter 20 Try.func37 (by kernel_rfl) fun hA => ?_
  refine runS hA 10 [.k 0, .k 0] xn on (by kernel_rfl) fun w1 hA => ?_
  by_cases hE : stkE m qs ss = 0
  case pos =>
    have hS9 := stk_ok hE
    have V := mkt_ok hS9.1
    have S := hS9.2
    have hS1 := S.1
    have hAp_mb := hA.atK [⟨w.heap.size, .cells #[.int .i64 m, .slice A n c] 44 (0, 0)⟩] (by kernel_rfl)
    refine call hA [] on (deskWith_ok w1 B m A n c qs A2 n2 c2 ss (hx.below hA.below hB) (Nat.le_trans hB hA.size) hr (hs.below hA.below hB) hE) (by kernel_rfl) (by rintro e v ⟨mb, o, rfl, hbm, hmb, hmo, hmg⟩; exact hbm) ?_
    rintro e w2 ⟨mb, o, rfl, hbm, hmb, hmo, hmg⟩
    refine ⟨_, rfl, fun hA => ?_⟩
    have hAq_mb := At.know hAp_mb hbm hmb hmg
    refine reknow ⟨[⟨w.heap.size, .cells #[.int .i64 m, .slice A n c] 44 (0, 0)⟩, ⟨mb, o⟩], w2.heap.size, [], [], [], [], []⟩ hAq_mb (Nat.zero_le _) fun hA => ?_
    refine runS hA 23 (List.replicate 6 (.k 2)) xn on (by kernel_rfl) fun w3 hA => ?_
    obtain rfl : n2 = n := by omega
    refine callB hA [] on (winSurely_any w3 B m A n2 c (.map (some mb)) qs A2 c2 ss (hx.below hA.below hB) (Nat.le_trans hB hA.size) V (hs.below hA.below hB) S) (by kernel_rfl) fun w4 hb4 hA => ?_
    refine runS hA 3 [.t 0] xn on (by kernel_rfl) fun w5 hA => ?_
    have hq9 := Bool.eq_false_or_eq_true ((winF qs ss m.toNat))
    rcases hq9 with ht1 | ht1
    ·
      refine runS hA 9 [.b false] xn (oc (show Value.bool (!(winF qs ss m.toNat)) = .bool false by rw [ht1] <;> rfl) on) (by kernel_rfl) fun w6 hA => ?_
      exact ret (v := .int .i64 0) hA [] (by kernel_rfl) ⟨by unfold csE; rw [if_neg (by omega), if_neg (by rw [ht1]; decide)], hA.below⟩
    ·
      refine runS hA 8 [.b true] xn (oc (show Value.bool (!(winF qs ss m.toNat)) = .bool true by rw [ht1] <;> rfl) on) (by kernel_rfl) fun w6 hA => ?_
      exact ret (v := .int .i64 14) hA [] (by kernel_rfl) ⟨by unfold csE; rw [if_neg (by omega), if_pos ht1], hA.below⟩
  case neg =>
    refine callB hA [] on (deskWith_bad w1 B m A n c qs A2 n2 c2 ss (hx.below hA.below hB) (Nat.le_trans hB hA.size) hr (hs.below hA.below hB) hE) (by kernel_rfl) fun w2 hb2 hA => ?_
    refine runS hA 15 [.k 1, .k 1, .k 1, .t 0] xn on (by kernel_rfl) fun w3 hA => ?_
    by_cases ht2 : (stkE m qs ss) = (0 : Int)
    case pos =>
      omega
    case neg =>
      refine runS hA 9 [.b true] xn (oc (ne_t ht2) on) (by kernel_rfl) fun w4 hA => ?_
      exact ret (v := .int .i64 (stkE m qs ss)) hA [] (by kernel_rfl) ⟨by unfold csE; rw [if_pos hE], hA.below⟩
end Go.Proofs.Ytfidkgpimlpdbaa

/- odds: CheckChances. -/
namespace Go.Proofs.Ytfidkgpimlpdbaa
open Go.RowKit Go.Shelf

/-- Whether a quote is unfair. -/
def unfF (cs : List Int) (sum : Int) (q : Qt) : Bool := !fairF q.n q.d q.lay (ratF (cs[q.r.toNat]?.getD 0) sum).1 (ratF (cs[q.r.toNat]?.getD 0) sum).2
def ccE (m : Int) (qs : List Qt) (cs : List Int) : Int := if mktE m qs ≠ 0 then mktE m qs else if (cs.length : Int) ≠ m then 15 else if totB cs = false then 3 else if (qs.any (unfF cs (totA cs))) = true then 20 else 0
set_option maxRecDepth 20000 in
theorem unfair_any (w : World) (B b1 b2 : Nat) (A2 : Option Addr) (n2 c2 : Nat) (cs : List Int) (sum : Int) (q : Qt) (h1 : b1 < w.heap.size ∧ w.cell? ⟨b1, 0, none⟩ = some (.slice A2 n2 c2)) (h2 : b2 < w.heap.size ∧ w.cell? ⟨b2, 0, none⟩ = some (.int .i64 sum)) (hs : IntsAt w B A2 n2 cs) (hB : B ≤ w.heap.size)
    (hc : ∀ x ∈ cs, 0 ≤ x ∧ x ≤ 1099511627776) (hsum : 0 < sum ∧ sum ≤ 1099511627776) (hq : (0 ≤ q.r ∧ q.r < n2) ∧ (0 ≤ q.n ∧ q.n ≤ 190) ∧ 1 ≤ q.d ∧ q.d ≤ 10) :
    Calls Try.prog 96 #[.agg #[.int .i64 q.r, .int .i64 q.n, .int .i64 q.d, .bool q.lay], .pointer (some ⟨b1, 0, none⟩), .pointer (some ⟨b2, 0, none⟩)] w fun e w' => e = .returned (.bool (unfF cs sum q)) ∧ Below w.heap.size w w' := by
  have hl := hs.1
  refine enter 15 Try.func96 (by kernel_rfl) fun hA => ?_
  refine runS hA 7 [] xn on (by kernel_rfl) fun w1 hA => ?_
  have hq9 := hs.at (j := q.r.toNat) (by omega)
  obtain ⟨b, off, rfl, hlb, hcb⟩ := hq9
  have k0 := hcb 0 _ rfl
  have hcx := hc (cs[q.r.toNat]?.getD 0) (get_mem (by omega))
  have hrp := rat_pos (n := (cs[q.r.toNat]?.getD 0)) (d := sum) hsum.1
  have hrn := rat_nonneg (n := (cs[q.r.toNat]?.getD 0)) (d := sum) hsum.1 hcx.1
  refine draw hA [true] [0, 1, 2, 3, 4, 5, 6, 7, 8, 9, 10] (by kernel_rfl) (by kernel_rfl) fun hA => ?_
  refine runS hA 7 ([.t 0] ++ List.replicate 4 (.k 0) ++ [.t 1, .x (.slice (some ⟨b, off, none⟩) n2 c2), .t 2, .t 3, .k 0, .t 4, .i, .t 5, .x (.int .i64 (cs[q.r.toNat]?.getD 0)), .t 6, .x (.int .i64 sum)]) (xc (a := ⟨b1, 0, none⟩) h1 (xc (a := ⟨b, off + q.r.toNat * 1, none⟩) ⟨Nat.lt_of_lt_of_le hlb hB, k0⟩ (xc (a := ⟨b2, 0, none⟩) h2 xn))) (oc (show (0 : Int) ≤ (q.r : Int) ∧ (q.r : Int) < (n2 : Int) by omega) on) (by kernel_rfl) fun w2 hA => ?_
  refine callB hA [] on (ratio_any w2 (cs[q.r.toNat]?.getD 0) sum ((by omega)) ((by omega))) (by kernel_rfl) fun w3 hb3 hA => ?_
  refine callB hA [] on (isFair_any w3 q.r q.n q.d q.lay ((ratF (cs[q.r.toNat]?.getD 0) sum).1) ((ratF (cs[q.r.toNat]?.getD 0) sum).2) (hq.2.1) (hq.2.2) ((by omega)) ((by omega))) (by kernel_rfl) fun w4 hb4 hA => ?_
  refine runS hA 5 [.t 9, .t 10, .b true] xn on (by kernel_rfl) fun w5 hA => ?_
  exact ret (v := .bool (!(fairF q.n q.d q.lay ((ratF (cs[q.r.toNat]?.getD 0) sum).1) ((ratF (cs[q.r.toNat]?.getD 0) sum).2)))) hA [] (by kernel_rfl) ⟨rfl, hA.below⟩
set_option maxHeartbeats 1000000 in
set_option maxRecDepth 20000 in
theorem CheckChances_any (w : World) (B : Nat) (m : Int) (A : Option Addr) (n c : Nat) (qs : List Qt) (A2 : Option Addr) (n2 c2 : Nat) (cs : List Int) (hx : QtsAt w B A n qs) (hB : B ≤ w.heap.size) (hr : ∀ q ∈ qs, -9223372036854775808 ≤ q.r ∧ q.r ≤ 9223372036854775807) (hs : IntsAt w B A2 n2 cs) : Calls Try.prog 43 #[.agg #[.int .i64 m, .slice A n c], .slice A2 n2 c2] w fun e w' => e = .returned (.int .i64 (ccE m qs cs)) ∧ Below w.heap.size w w' := by
  have hl := hx.1
  have hn9 := hx.2.1
  have hl2 := hs.1
  have hn2 := hs.2.1
  refine enter 37 Try.func43 (by kernel_rfl) fun hA => ?_
  refine runS hA 10 [.k 0, .k 0] xn on (by kernel_rfl) fun w1 hA => ?_
  by_cases hE : mktE m qs = 0
  case pos =>
    have V := mkt_ok hE
    have hAp_mb := hA.atK [⟨w.heap.size, .cells #[.int .i64 m, .slice A n c] 44 (0, 0)⟩, ⟨w.heap.size + 1, .cells #[.slice A2 n2 c2] 45 (0, 0)⟩] (by kernel_rfl)
    refine call hA [] on (deskOf_ok w1 B m A n c qs (hx.below hA.below hB) (Nat.le_trans hB hA.size) hr hE) (by kernel_rfl) (by rintro e v ⟨mb, o, rfl, hbm, hmb, hmo, hmg⟩; exact hbm) ?_
    rintro e w2 ⟨mb, o, rfl, hbm, hmb, hmo, hmg⟩
    refine ⟨_, rfl, fun hA => ?_⟩
    have hAq_mb := At.know hAp_mb hbm hmb hmg
    refine reknow ⟨[⟨w.heap.size, .cells #[.int .i64 m, .slice A n c] 44 (0, 0)⟩, ⟨w.heap.size + 1, .cells #[.slice A2 n2 c2] 45 (0, 0)⟩, ⟨mb, o⟩], w2.heap.size, [], [], [], [], []⟩ hAq_mb (Nat.zero_le _) fun hA => ?_
    refine runS hA 29 [.k 3, .k 3, .k 3, .k 1, .k 3, .t 0] xn on (by kernel_rfl) fun w3 hA => ?_
    by_cases ht1 : n2 = (m : Int)
    case pos =>
      refine runS hA 6 [.b false, .k 1] xn (oc (ne_f ht1) on) (by kernel_rfl) fun w4 hA => ?_
      have hfew := V.few
      refine callB hA [] on (total_any w4 B A2 n2 c2 cs (hs.below hA.below hB) (Nat.le_trans hB hA.size) (by omega)) (by kernel_rfl) fun w5 hb5 hA => ?_
      refine runS hA 15 [.k 4, .t 0] xn on (by kernel_rfl) fun w6 hA => ?_
      have hq9 := Bool.eq_false_or_eq_true ((totB cs))
      rcases hq9 with ht2 | ht2
      ·
        refine runS hA 16 [.b false, .k 3] xn (oc (show Value.bool (!(totB cs)) = .bool false by rw [ht2] <;> rfl) on) (by kernel_rfl) fun w7 hA => ?_
        have htb := ht2
        unfold totB at htb
        rw [Bool.and_eq_true, decide_eq_true_eq] at htb
        have hta : totA cs = sumP cs cs.length := by unfold totA; rw [if_pos htb.1]
        have o1 := (hA.at_.ok ⟨w.heap.size + 1, .cells #[.slice A2 n2 c2] 45 (0, 0)⟩ (List.mem_of_getElem? (i := 1) (by kernel_rfl)))
        have o2 := (hA.at_.ok ⟨w5.heap.size, .cells #[.int .i64 (totA cs)] 2 (0, 0)⟩ (List.mem_of_getElem? (i := 4) (by kernel_rfl)))
        refine callB hA [] on (containsC_any w7 B A n c qs (unfF cs (totA cs)) (w.heap.size + 1) w5.heap.size (hx.below hA.below hB) (Nat.le_trans hB hA.size) (fun W hW q hq => unfair_any W B _ _ A2 n2 c2 cs (totA cs) q ⟨Nat.lt_of_lt_of_le (Array.getElem?_eq_some_iff.1 o1).1 hW.size, (hW.cell (Array.getElem?_eq_some_iff.1 o1).1).trans (cell_of_obj o1 rfl rfl)⟩ ⟨Nat.lt_of_lt_of_le (Array.getElem?_eq_some_iff.1 o2).1 hW.size, (hW.cell (Array.getElem?_eq_some_iff.1 o2).1).trans (cell_of_obj o2 rfl rfl)⟩ ((hs.below hA.below hB).below hW (Nat.le_trans hB hA.size)) (Nat.le_trans (Nat.le_trans hB hA.size) hW.size) (within_all htb.1) (by omega) (by have := V.all q hq; omega))) (by kernel_rfl) fun w8 hb8 hA => ?_
        refine runS hA 2 [.t 0] xn on (by kernel_rfl) fun w9 hA => ?_
        have hq9 := Bool.eq_false_or_eq_true ((qs.any (unfF cs (totA cs))))
        rcases hq9 with ht3 | ht3
        ·
          refine runS hA 8 [.b true] xn (oc (show Value.bool (qs.any (unfF cs (totA cs))) = .bool true by rw [ht3] <;> rfl) on) (by kernel_rfl) fun w10 hA => ?_
          exact ret (v := .int .i64 20) hA [] (by kernel_rfl) ⟨by unfold ccE; rw [if_neg (by omega), if_neg (by omega), if_neg (by rw [ht2]; decide), if_pos ht3], hA.below⟩
        ·
          refine runS hA 9 [.b false] xn (oc (show Value.bool (qs.any (unfF cs (totA cs))) = .bool false by rw [ht3] <;> rfl) on) (by kernel_rfl) fun w10 hA => ?_
          exact ret (v := .int .i64 0) hA [] (by kernel_rfl) ⟨by unfold ccE; rw [if_neg (by omega), if_neg (by omega), if_neg (by rw [ht2]; decide), if_neg (by rw [ht3]; decide)], hA.below⟩
      ·
        refine runS hA 8 [.b true] xn (oc (show Value.bool (!(totB cs)) = .bool true by rw [ht2] <;> rfl) on) (by kernel_rfl) fun w7 hA => ?_
        exact ret (v := .int .i64 3) hA [] (by kernel_rfl) ⟨by unfold ccE; rw [if_neg (by omega), if_neg (by omega), if_pos ht2], hA.below⟩
    case neg =>
      refine runS hA 8 [.b true] xn (oc (ne_t ht1) on) (by kernel_rfl) fun w4 hA => ?_
      exact ret (v := .int .i64 15) hA [] (by kernel_rfl) ⟨by unfold ccE; rw [if_neg (by omega), if_pos (by omega)], hA.below⟩
  case neg =>
    refine callB hA [] on (deskOf_bad w1 B m A n c qs (hx.below hA.below hB) (Nat.le_trans hB hA.size) hr hE) (by kernel_rfl) fun w2 hb2 hA => ?_
    refine runS hA 15 [.k 2, .k 2, .k 2, .t 0] xn on (by kernel_rfl) fun w3 hA => ?_
    by_cases ht4 : (mktE m qs) = (0 : Int)
    case pos =>
      omega
    case neg =>
      refine runS hA 9 [.b true] xn (oc (ne_t ht4) on) (by kernel_rfl) fun w4 hA => ?_
      exact ret (v := .int .i64 (mktE m qs)) hA [] (by kernel_rfl) ⟨by unfold ccE; rw [if_pos hE], hA.below⟩
end Go.Proofs.Ytfidkgpimlpdbaa

/- odds: ends, rest. -/
namespace Go.Proofs.Ytfidkgpimlpdbaa
open Go.RowKit Go.Shelf

/-- Five fractions as the cells of an array. -/
def rtC (f : Nat → Rt) : Array Value := #[.int .i64 (f 0).1, .int .i64 (f 0).2, .int .i64 (f 1).1, .int .i64 (f 1).2, .int .i64 (f 2).1, .int .i64 (f 2).2, .int .i64 (f 3).1, .int .i64 (f 3).2, .int .i64 (f 4).1, .int .i64 (f 4).2]
theorem rtC_get {f : Nat → Rt} {i : Nat} (h : i < 5) : (rtC f)[0 + i * 2]? = some (.int .i64 (f i).1) ∧ (rtC f)[0 + i * 2 + 1]? = some (.int .i64 (f i).2) := by
  match i, h with
  | 0, _ => exact ⟨rfl, rfl⟩
  | 1, _ => exact ⟨rfl, rfl⟩
  | 2, _ => exact ⟨rfl, rfl⟩
  | 3, _ => exact ⟨rfl, rfl⟩
  | 4, _ => exact ⟨rfl, rfl⟩
theorem rtC_set {f : Nat → Rt} {i : Nat} (h : i < 5) (a b : Int) : ((rtC f).setIfInBounds (0 + i * 2) (.int .i64 a)).setIfInBounds (0 + i * 2 + 1) (.int .i64 b) = rtC fun r => if r = i then (a, b) else f r := by
  match i, h with
  | 0, _ => rfl
  | 1, _ => rfl
  | 2, _ => rfl
  | 3, _ => rfl
  | 4, _ => rfl
theorem rtC_get1 {f : Nat → Rt} {i : Nat} (h : i < 5) (a : Value) : ((rtC f).setIfInBounds (0 + i * 2) a)[0 + i * 2 + 1]? = some (.int .i64 (f i).2) := by
  rw [Array.getElem?_setIfInBounds_ne (by omega)]
  exact (rtC_get h).2
/-- The bound of a runner: that of the best quote on a side, or a certain chance. -/
def endR (m : Int) (qs : List Qt) (lay : Bool) (wo : Rt) (r : Nat) : Rt :=
  if (r : Int) < m then match mfind ((r : Int), lay) (bestM qs qs.length) with
    | some e => bndF (qs[e.2]?.getD noQ).n (qs[e.2]?.getD noQ).d
    | none => wo
  else (0, 0)
def endI (m : Int) (qs : List Qt) (lay : Bool) (wo : Rt) (i r : Nat) : Rt := if r < i then endR m qs lay wo r else (0, 0)
theorem endI_all {m : Int} {qs : List Qt} {lay : Bool} {wo : Rt} {i : Nat} (h : (i : Int) = m) : endI m qs lay wo i = endR m qs lay wo := by
  funext r
  unfold endI
  split
  · rfl
  · unfold endR
    rw [if_neg (by omega)]
theorem endI_step {m : Int} {qs : List Qt} {lay : Bool} {wo : Rt} {i : Nat} : (fun r => if r = i then endR m qs lay wo i else endI m qs lay wo i r) = endI m qs lay wo (i + 1) := by
  funext r
  unfold endI
  by_cases h : r = i
  · subst h; rw [if_pos rfl, if_pos (by omega)]
  · rw [if_neg h]
    by_cases h2 : r < i
    · rw [if_pos h2, if_pos (by omega)]
    · rw [if_neg h2, if_neg (by omega)]
set_option maxHeartbeats 1000000 in
set_option maxRecDepth 20000 in
theorem ends_any (w : World) (B : Nat) (m : Int) (A : Option Addr) (n c mb : Nat) (qs : List Qt) (lay : Bool) (wo : Rt) (hx : QtsAt w B A n qs) (hB : B ≤ w.heap.size) (V : ValidM m qs) (hm : MapAt sideV Nat idxV w mb (bestM qs qs.length)) (hml : mb < w.heap.size) :
    Calls Try.prog 116 #[.agg #[.int .i64 m, .slice A n c, .map (some mb)], .bool lay, .agg #[.int .i64 wo.1, .int .i64 wo.2]] w fun e w' => e = .returned (.agg (rtC (endR m qs lay wo))) ∧ Below w.heap.size w w' := by
  have hl := hx.1
  have hfew := V.few
  have hq9 : ∃ M : Nat, m = (M : Int) := ⟨m.toNat, by omega⟩
  obtain ⟨M, hM⟩ := hq9
  refine enter 41 Try.func116 (by kernel_rfl) fun hA => ?_
  refine runS hA 22 [.k 0] xn on (by kernel_rfl) fun w1 hA => ?_
  have h00 : endI m qs lay wo 0 = fun _ => (0, 0) := by funext r; unfold endI; rw [if_neg (by omega)]
  refine loop (γ := Nat) (fun i => [(1, .bool lay), (3, .pointer (some ⟨w.heap.size, 0, none⟩)), (5, .pointer (some ⟨w.heap.size + 1, 0, none⟩)), (6, .pointer (some ⟨w.heap.size + 2, 0, none⟩)), (7, .pointer (some ⟨w.heap.size + 3, 0, none⟩)), (13, .int .i64 m), (14, .int .i64 (i : Int))]) (fun i => [⟨w.heap.size, .cells #[.int .i64 m, .slice A n c, .map (some mb)] 100 (0, 0)⟩, ⟨w.heap.size + 1, .cells #[.int .i64 wo.1, .int .i64 wo.2] 23 (0, 0)⟩, ⟨w.heap.size + 2, .cells #[.int .i64 0, .int .i64 0, .int .i64 0, .int .i64 0, .int .i64 0, .int .i64 0, .int .i64 0, .int .i64 0, .int .i64 0, .int .i64 0] 111 (0, 0)⟩, ⟨w.heap.size + 3, .cells (rtC (endI m qs lay wo i)) 111 (0, 0)⟩]) (fun _ => []) (fun g i wr => i ≤ M ∧ g = M - i) M 0 [true, true, true, true] hA (by kernel_rfl) (⟨by omega, rfl⟩) ?_
  rintro _ i wr ⟨hi, rfl⟩ J hJ hA
  by_cases hlt : i < M
  case neg =>
    refine runS hA 9 [.b false] xn (oc (dec_f (show ¬ ((i : Int) < m) by omega)) on) (by kernel_rfl) fun w2 hA => ?_
    refine leave hA (by kernel_rfl) fun hA => ?_
    have hall := endI_all (qs := qs) (lay := lay) (wo := wo) (show (i : Int) = m by omega)
    refine runS hA 9 ([.y 3 (.int .i64 ((endI m qs lay wo i 0).1)), .y 3 (.int .i64 ((endI m qs lay wo i 0).2)), .y 3 (.int .i64 ((endI m qs lay wo i 1).1)), .y 3 (.int .i64 ((endI m qs lay wo i 1).2)), .y 3 (.int .i64 ((endI m qs lay wo i 2).1)), .y 3 (.int .i64 ((endI m qs lay wo i 2).2)), .y 3 (.int .i64 ((endI m qs lay wo i 3).1)), .y 3 (.int .i64 ((endI m qs lay wo i 3).2)), .y 3 (.int .i64 ((endI m qs lay wo i 4).1)), .y 3 (.int .i64 ((endI m qs lay wo i 4).2))] ++ List.replicate 10 (.k 2)) xn (oc (show (rtC (endI m qs lay wo i))[0]? = some (.int .i64 ((endI m qs lay wo i 0).1)) from rfl) (oc (show (rtC (endI m qs lay wo i))[1]? = some (.int .i64 ((endI m qs lay wo i 0).2)) from rfl) (oc (show (rtC (endI m qs lay wo i))[2]? = some (.int .i64 ((endI m qs lay wo i 1).1)) from rfl) (oc (show (rtC (endI m qs lay wo i))[3]? = some (.int .i64 ((endI m qs lay wo i 1).2)) from rfl) (oc (show (rtC (endI m qs lay wo i))[4]? = some (.int .i64 ((endI m qs lay wo i 2).1)) from rfl) (oc (show (rtC (endI m qs lay wo i))[5]? = some (.int .i64 ((endI m qs lay wo i 2).2)) from rfl) (oc (show (rtC (endI m qs lay wo i))[6]? = some (.int .i64 ((endI m qs lay wo i 3).1)) from rfl) (oc (show (rtC (endI m qs lay wo i))[7]? = some (.int .i64 ((endI m qs lay wo i 3).2)) from rfl) (oc (show (rtC (endI m qs lay wo i))[8]? = some (.int .i64 ((endI m qs lay wo i 4).1)) from rfl) (oc (show (rtC (endI m qs lay wo i))[9]? = some (.int .i64 ((endI m qs lay wo i 4).2)) from rfl) on)))))))))) (by kernel_rfl) fun w3 hA => ?_
    exact ret (v := .agg #[.int .i64 ((endI m qs lay wo i 0).1), .int .i64 ((endI m qs lay wo i 0).2), .int .i64 ((endI m qs lay wo i 1).1), .int .i64 ((endI m qs lay wo i 1).2), .int .i64 ((endI m qs lay wo i 2).1), .int .i64 ((endI m qs lay wo i 2).2), .int .i64 ((endI m qs lay wo i 3).1), .int .i64 ((endI m qs lay wo i 3).2), .int .i64 ((endI m qs lay wo i 4).1), .int .i64 ((endI m qs lay wo i 4).2)]) hA (List.replicate 10 (.k 2)) (by kernel_rfl) ⟨by rw [hall]; rfl, hA.below⟩
  case pos =>
    have h5 : i < 5 := by omega
    have hget := rtC_get (f := endI m qs lay wo i) h5
    refine runS hA 32 [.b true, .k 1, .k 1, .i, .y 3 (.int .i64 ((endI m qs lay wo i i).1)), .y 3 (.int .i64 ((endI m qs lay wo i i).2)), .k 0] xn (oc (dec_t (show (i : Int) < m by omega)) (oc (show (0 : Int) ≤ ((i : Int) : Int) ∧ ((i : Int) : Int) < (5 : Int) by omega) (oc (show (rtC (endI m qs lay wo i))[0 + i * 2]? = some (.int .i64 ((endI m qs lay wo i i).1)) from hget.1) (oc (show ((rtC (endI m qs lay wo i)).setIfInBounds (0 + i * 2) (.int .i64 wo.1))[0 + i * 2 + 1]? = some (.int .i64 ((endI m qs lay wo i i).2)) from rtC_get1 h5 _) on)))) (by kernel_rfl) fun w2 hA => ?_
    have hAk9 : At w w2 [⟨w.heap.size, .cells #[.int .i64 m, .slice A n c, .map (some mb)] 100 (0, 0)⟩, ⟨w.heap.size + 1, .cells #[.int .i64 wo.1, .int .i64 wo.2] 23 (0, 0)⟩, ⟨w.heap.size + 2, .cells #[.int .i64 0, .int .i64 0, .int .i64 0, .int .i64 0, .int .i64 0, .int .i64 0, .int .i64 0, .int .i64 0, .int .i64 0, .int .i64 0] 111 (0, 0)⟩, ⟨w.heap.size + 3, .cells (rtC (fun r => if r = i then (wo.1, wo.2) else endI m qs lay wo i r)) 111 (0, 0)⟩] [] w2.heap.size := by rw [← rtC_set h5 wo.1 wo.2]; exact (hA.atK [⟨w.heap.size, .cells #[.int .i64 m, .slice A n c, .map (some mb)] 100 (0, 0)⟩, ⟨w.heap.size + 1, .cells #[.int .i64 wo.1, .int .i64 wo.2] 23 (0, 0)⟩, ⟨w.heap.size + 2, .cells #[.int .i64 0, .int .i64 0, .int .i64 0, .int .i64 0, .int .i64 0, .int .i64 0, .int .i64 0, .int .i64 0, .int .i64 0, .int .i64 0] 111 (0, 0)⟩, ⟨w.heap.size + 3, .cells (((rtC (endI m qs lay wo i)).setIfInBounds (0 + i * 2) (.int .i64 wo.1)).setIfInBounds (0 + i * 2 + 1) (.int .i64 wo.2)) 111 (0, 0)⟩] (by kernel_rfl)).resize
    refine reknow ⟨[⟨w.heap.size, .cells #[.int .i64 m, .slice A n c, .map (some mb)] 100 (0, 0)⟩, ⟨w.heap.size + 1, .cells #[.int .i64 wo.1, .int .i64 wo.2] 23 (0, 0)⟩, ⟨w.heap.size + 2, .cells #[.int .i64 0, .int .i64 0, .int .i64 0, .int .i64 0, .int .i64 0, .int .i64 0, .int .i64 0, .int .i64 0, .int .i64 0, .int .i64 0] 111 (0, 0)⟩, ⟨w.heap.size + 3, .cells (rtC (fun r => if r = i then (wo.1, wo.2) else endI m qs lay wo i r)) 111 (0, 0)⟩], w2.heap.size, [], [], [], [], []⟩ hAk9 (Nat.zero_le _) fun hA => ?_
    have hmw := hm.below hA.below hml
    cases hfi : mfind ((i : Int), lay) (bestM qs qs.length) with
    | none =>
      refine mapLookOkW (mt := 98) (et := 3) (p := ((i : Int), lay)) (b := mb) (α := Nat) (enc := idxV) hA keySide (hmw) ((0 : Nat)) (fun _ => by kernel_rfl) (by kernel_rfl) fun hA => ?_
      refine revals hA (rc 26 (show .tuple #[.int .i64 ((mget 0 (bestM qs qs.length) ((i : Int), lay) : Nat) : Int), .bool ((mfind ((i : Int), lay) (bestM qs qs.length)).isSome)] = .tuple #[.int .i64 0, .bool false] by unfold mget; rw [hfi]; rfl) rn) (by kernel_rfl) fun hA => ?_
      refine runS hA 20 [.v (.int .i64 ((i : Int) + 1))] xn (oc (show Value.int .i64 (IntKind.i64.wrap ((i : Int) + 1)) = .int .i64 ((i : Int) + 1) from wrp (by omega)) on) (by kernel_rfl) fun w3 hA => ?_
      have her : endR m qs lay wo i = (wo.1, wo.2) := by unfold endR; rw [if_pos (by omega), hfi]
      have hAk9 : At w w3 [⟨w.heap.size, .cells #[.int .i64 m, .slice A n c, .map (some mb)] 100 (0, 0)⟩, ⟨w.heap.size + 1, .cells #[.int .i64 wo.1, .int .i64 wo.2] 23 (0, 0)⟩, ⟨w.heap.size + 2, .cells #[.int .i64 0, .int .i64 0, .int .i64 0, .int .i64 0, .int .i64 0, .int .i64 0, .int .i64 0, .int .i64 0, .int .i64 0, .int .i64 0] 111 (0, 0)⟩, ⟨w.heap.size + 3, .cells (rtC (endI m qs lay wo (i + 1))) 111 (0, 0)⟩] [] w3.heap.size := by rw [← endI_step, her]; exact (hA.atK [⟨w.heap.size, .cells #[.int .i64 m, .slice A n c, .map (some mb)] 100 (0, 0)⟩, ⟨w.heap.size + 1, .cells #[.int .i64 wo.1, .int .i64 wo.2] 23 (0, 0)⟩, ⟨w.heap.size + 2, .cells #[.int .i64 0, .int .i64 0, .int .i64 0, .int .i64 0, .int .i64 0, .int .i64 0, .int .i64 0, .int .i64 0, .int .i64 0, .int .i64 0] 111 (0, 0)⟩, ⟨w.heap.size + 3, .cells (rtC (fun r => if r = i then (wo.1, wo.2) else endI m qs lay wo i r)) 111 (0, 0)⟩] (by kernel_rfl)).resize
      refine reknow ⟨[⟨w.heap.size, .cells #[.int .i64 m, .slice A n c, .map (some mb)] 100 (0, 0)⟩, ⟨w.heap.size + 1, .cells #[.int .i64 wo.1, .int .i64 wo.2] 23 (0, 0)⟩, ⟨w.heap.size + 2, .cells #[.int .i64 0, .int .i64 0, .int .i64 0, .int .i64 0, .int .i64 0, .int .i64 0, .int .i64 0, .int .i64 0, .int .i64 0, .int .i64 0] 111 (0, 0)⟩, ⟨w.heap.size + 3, .cells (rtC (endI m qs lay wo (i + 1))) 111 (0, 0)⟩], w3.heap.size, [], [], [], [], []⟩ hAk9 (Nat.zero_le _) fun hA => ?_
      refine revals hA (rc 14 (show .int .i64 ((i : Int) + 1) = .int .i64 ((i + 1 : Nat) : Int) by rw [show ((i + 1 : Nat) : Int) = (i : Int) + 1 by omega]) rn) (by kernel_rfl) fun hA => ?_
      exact again hJ (M - (i + 1)) (i + 1) [true, true, true, true] hA (by omega) (by kernel_rfl) (⟨by omega, rfl⟩)
    | some r =>
      obtain ⟨ix, old⟩ := r
      have hold := (bestM_lt qs qs.length _ (List.mem_of_getElem? (mfind_at hfi).2)).1
      simp only at hold
      refine mapLookOkW (mt := 98) (et := 3) (p := ((i : Int), lay)) (b := mb) (α := Nat) (enc := idxV) hA keySide (hmw) ((0 : Nat)) (fun _ => by kernel_rfl) (by kernel_rfl) fun hA => ?_
      refine revals hA (rc 26 (show .tuple #[.int .i64 ((mget 0 (bestM qs qs.length) ((i : Int), lay) : Nat) : Int), .bool ((mfind ((i : Int), lay) (bestM qs qs.length)).isSome)] = .tuple #[.int .i64 (old : Int), .bool true] by unfold mget; rw [hfi]; rfl) rn) (by kernel_rfl) fun hA => ?_
      have hq9 := hx.at ((show old < n by omega))
      obtain ⟨b, off, rfl, hlb, hcb⟩ := hq9
      have k0 := hcb 0 _ rfl
      have k1 := hcb 1 _ rfl
      have k2 := hcb 2 _ rfl
      have k3 := hcb 3 _ rfl
      have hqo := strict_ok V hold
      refine runS hA 21 [.k 0, .i, .x (.int .i64 ((qs[old]?.getD noQ).r)), .x (.int .i64 ((qs[old]?.getD noQ).n)), .x (.int .i64 ((qs[old]?.getD noQ).d)), .x (.bool ((qs[old]?.getD noQ).lay))] (xc (a := ⟨b, off + old * 4, none⟩) ⟨Nat.lt_of_lt_of_le hlb hB, k0⟩ (xc (a := ⟨b, off + old * 4 + 1, none⟩) ⟨Nat.lt_of_lt_of_le hlb hB, k1⟩ (xc (a := ⟨b, off + old * 4 + 2, none⟩) ⟨Nat.lt_of_lt_of_le hlb hB, k2⟩ (xc (a := ⟨b, off + old * 4 + 3, none⟩) ⟨Nat.lt_of_lt_of_le hlb hB, k3⟩ xn)))) (oc (show (0 : Int) ≤ ((old : Int) : Int) ∧ ((old : Int) : Int) < (n : Int) by omega) on) (by kernel_rfl) fun w3 hA => ?_
      refine callB hA [] on (bound_any w3 ((qs[old]?.getD noQ).r) ((qs[old]?.getD noQ).n) ((qs[old]?.getD noQ).d) ((qs[old]?.getD noQ).lay) (by omega) (by omega)) (by kernel_rfl) fun w4 hb4 hA => ?_
      have hget2 := rtC_get (f := fun r => if r = i then (wo.1, wo.2) else endI m qs lay wo i r) h5
      refine runS hA 9 [.i, .y 3 (.int .i64 (((fun r => if r = i then (wo.1, wo.2) else endI m qs lay wo i r) i).1)), .y 3 (.int .i64 (((fun r => if r = i then (wo.1, wo.2) else endI m qs lay wo i r) i).2)), .v (.int .i64 ((i : Int) + 1))] xn (oc (show (0 : Int) ≤ ((i : Int) : Int) ∧ ((i : Int) : Int) < (5 : Int) by omega) (oc (show (rtC (fun r => if r = i then (wo.1, wo.2) else endI m qs lay wo i r))[0 + i * 2]? = some (.int .i64 (((fun r => if r = i then (wo.1, wo.2) else endI m qs lay wo i r) i).1)) from hget2.1) (oc (show ((rtC (fun r => if r = i then (wo.1, wo.2) else endI m qs lay wo i r)).setIfInBounds (0 + i * 2) (.int .i64 ((bndF ((qs[old]?.getD noQ).n) ((qs[old]?.getD noQ).d)).1)))[0 + i * 2 + 1]? = some (.int .i64 (((fun r => if r = i then (wo.1, wo.2) else endI m qs lay wo i r) i).2)) from rtC_get1 h5 _) (oc (show Value.int .i64 (IntKind.i64.wrap ((i : Int) + 1)) = .int .i64 ((i : Int) + 1) from wrp (by omega)) on)))) (by kernel_rfl) fun w5 hA => ?_
      have her : endR m qs lay wo i = ((bndF (qs[old]?.getD noQ).n (qs[old]?.getD noQ).d).1, (bndF (qs[old]?.getD noQ).n (qs[old]?.getD noQ).d).2) := by unfold endR; rw [if_pos (by omega), hfi]
      have hov : (fun r => if r = i then ((bndF (qs[old]?.getD noQ).n (qs[old]?.getD noQ).d).1, (bndF (qs[old]?.getD noQ).n (qs[old]?.getD noQ).d).2) else (if r = i then (wo.1, wo.2) else endI m qs lay wo i r)) = fun r => if r = i then ((bndF (qs[old]?.getD noQ).n (qs[old]?.getD noQ).d).1, (bndF (qs[old]?.getD noQ).n (qs[old]?.getD noQ).d).2) else endI m qs lay wo i r := by funext r; by_cases h : r = i <;> simp [h]
      have hAk9 : At w w5 [⟨w.heap.size, .cells #[.int .i64 m, .slice (some ⟨b, off, none⟩) n c, .map (some mb)] 100 (0, 0)⟩, ⟨w.heap.size + 1, .cells #[.int .i64 wo.1, .int .i64 wo.2] 23 (0, 0)⟩, ⟨w.heap.size + 2, .cells #[.int .i64 0, .int .i64 0, .int .i64 0, .int .i64 0, .int .i64 0, .int .i64 0, .int .i64 0, .int .i64 0, .int .i64 0, .int .i64 0] 111 (0, 0)⟩, ⟨w.heap.size + 3, .cells (rtC (fun r => if r = i then ((bndF (qs[old]?.getD noQ).n (qs[old]?.getD noQ).d).1, (bndF (qs[old]?.getD noQ).n (qs[old]?.getD noQ).d).2) else endI m qs lay wo i r)) 111 (0, 0)⟩] [] w5.heap.size := by rw [← hov, ← rtC_set (f := fun r => if r = i then (wo.1, wo.2) else endI m qs lay wo i r) h5 (bndF (qs[old]?.getD noQ).n (qs[old]?.getD noQ).d).1 (bndF (qs[old]?.getD noQ).n (qs[old]?.getD noQ).d).2]; exact (hA.atK [⟨w.heap.size, .cells #[.int .i64 m, .slice (some ⟨b, off, none⟩) n c, .map (some mb)] 100 (0, 0)⟩, ⟨w.heap.size + 1, .cells #[.int .i64 wo.1, .int .i64 wo.2] 23 (0, 0)⟩, ⟨w.heap.size + 2, .cells #[.int .i64 0, .int .i64 0, .int .i64 0, .int .i64 0, .int .i64 0, .int .i64 0, .int .i64 0, .int .i64 0, .int .i64 0, .int .i64 0] 111 (0, 0)⟩, ⟨w.heap.size + 3, .cells (((rtC (fun r => if r = i then (wo.1, wo.2) else endI m qs lay wo i r)).setIfInBounds (0 + i * 2) (.int .i64 ((bndF ((qs[old]?.getD noQ).n) ((qs[old]?.getD noQ).d)).1))).setIfInBounds (0 + i * 2 + 1) (.int .i64 ((bndF ((qs[old]?.getD noQ).n) ((qs[old]?.getD noQ).d)).2))) 111 (0, 0)⟩] (by kernel_rfl)).resize
      refine reknow ⟨[⟨w.heap.size, .cells #[.int .i64 m, .slice (some ⟨b, off, none⟩) n c, .map (some mb)] 100 (0, 0)⟩, ⟨w.heap.size + 1, .cells #[.int .i64 wo.1, .int .i64 wo.2] 23 (0, 0)⟩, ⟨w.heap.size + 2, .cells #[.int .i64 0, .int .i64 0, .int .i64 0, .int .i64 0, .int .i64 0, .int .i64 0, .int .i64 0, .int .i64 0, .int .i64 0, .int .i64 0] 111 (0, 0)⟩, ⟨w.heap.size + 3, .cells (rtC (fun r => if r = i then ((bndF (qs[old]?.getD noQ).n (qs[old]?.getD noQ).d).1, (bndF (qs[old]?.getD noQ).n (qs[old]?.getD noQ).d).2) else endI m qs lay wo i r)) 111 (0, 0)⟩], w5.heap.size, [], [], [], [], []⟩ hAk9 (Nat.zero_le _) fun hA => ?_
      have hAk9 : At w w5 [⟨w.heap.size, .cells #[.int .i64 m, .slice (some ⟨b, off, none⟩) n c, .map (some mb)] 100 (0, 0)⟩, ⟨w.heap.size + 1, .cells #[.int .i64 wo.1, .int .i64 wo.2] 23 (0, 0)⟩, ⟨w.heap.size + 2, .cells #[.int .i64 0, .int .i64 0, .int .i64 0, .int .i64 0, .int .i64 0, .int .i64 0, .int .i64 0, .int .i64 0, .int .i64 0, .int .i64 0] 111 (0, 0)⟩, ⟨w.heap.size + 3, .cells (rtC (endI m qs lay wo (i + 1))) 111 (0, 0)⟩] [] w5.heap.size := by rw [← endI_step, her]; exact (hA.atK [⟨w.heap.size, .cells #[.int .i64 m, .slice (some ⟨b, off, none⟩) n c, .map (some mb)] 100 (0, 0)⟩, ⟨w.heap.size + 1, .cells #[.int .i64 wo.1, .int .i64 wo.2] 23 (0, 0)⟩, ⟨w.heap.size + 2, .cells #[.int .i64 0, .int .i64 0, .int .i64 0, .int .i64 0, .int .i64 0, .int .i64 0, .int .i64 0, .int .i64 0, .int .i64 0, .int .i64 0] 111 (0, 0)⟩, ⟨w.heap.size + 3, .cells (rtC (fun r => if r = i then ((bndF (qs[old]?.getD noQ).n (qs[old]?.getD noQ).d).1, (bndF (qs[old]?.getD noQ).n (qs[old]?.getD noQ).d).2) else endI m qs lay wo i r)) 111 (0, 0)⟩] (by kernel_rfl)).resize
      refine reknow ⟨[⟨w.heap.size, .cells #[.int .i64 m, .slice (some ⟨b, off, none⟩) n c, .map (some mb)] 100 (0, 0)⟩, ⟨w.heap.size + 1, .cells #[.int .i64 wo.1, .int .i64 wo.2] 23 (0, 0)⟩, ⟨w.heap.size + 2, .cells #[.int .i64 0, .int .i64 0, .int .i64 0, .int .i64 0, .int .i64 0, .int .i64 0, .int .i64 0, .int .i64 0, .int .i64 0, .int .i64 0] 111 (0, 0)⟩, ⟨w.heap.size + 3, .cells (rtC (endI m qs lay wo (i + 1))) 111 (0, 0)⟩], w5.heap.size, [], [], [], [], []⟩ hAk9 (Nat.zero_le _) fun hA => ?_
      refine revals hA (rc 14 (show .int .i64 ((i : Int) + 1) = .int .i64 ((i + 1 : Nat) : Int) by rw [show ((i + 1 : Nat) : Int) = (i : Int) + 1 by omega]) rn) (by kernel_rfl) fun hA => ?_
      exact again hJ (M - (i + 1)) (i + 1) [true, true, true, true] hA (by omega) (by kernel_rfl) (⟨by omega, rfl⟩)
end Go.Proofs.Ytfidkgpimlpdbaa

/- odds: rest. -/
namespace Go.Proofs.Ytfidkgpimlpdbaa
open Go.RowKit Go.Shelf

def restP (f : Nat → Rt) (k : Nat) : Nat → Rt
  | 0 => (1, 1)
  | i + 1 => if i = k then restP f k i else ratF ((restP f k i).1 * (f i).2 - (f i).1 * (restP f k i).2) ((restP f k i).2 * (f i).2)
/-- A chance. -/
def Chc (x : Rt) : Prop := 0 ≤ x.1 ∧ x.1 ≤ x.2 ∧ 0 < x.2 ∧ x.2 ≤ 200
theorem minus_bd {a b x y K D : Int} (hx : 0 ≤ x ∧ x ≤ y ∧ 0 < y ∧ y ≤ 200) (hb : 0 < b ∧ b ≤ D) (_hK : 0 ≤ K) (ha : -(K * b) ≤ a ∧ a ≤ K * b) :
    (-((K + 1) * (ratF (a * y - x * b) (b * y)).2) ≤ (ratF (a * y - x * b) (b * y)).1 ∧ (ratF (a * y - x * b) (b * y)).1 ≤ (K + 1) * (ratF (a * y - x * b) (b * y)).2) ∧ 0 < (ratF (a * y - x * b) (b * y)).2 ∧ (ratF (a * y - x * b) (b * y)).2 ≤ D * 200 := by
  have hby := Int.mul_pos hb.1 hx.2.2.1
  have hp := rat_pos (n := a * y - x * b) (d := b * y) hby
  have hm := rat_mul (n := a * y - x * b) (d := b * y)
  have hg := gcdZ_pos (a := a * y - x * b) (b := b * y) hby
  have h1 := Int.mul_le_mul hb.2 hx.2.2.2 (by omega) (by omega)
  have m1 := Int.mul_le_mul_of_nonneg_right ha.1 (show 0 ≤ y by omega)
  have m2 := Int.mul_le_mul_of_nonneg_right ha.2 (show 0 ≤ y by omega)
  have m3 := Int.mul_le_mul_of_nonneg_right hx.2.1 (show 0 ≤ b by omega)
  have m4 := Int.mul_nonneg hx.1 (show 0 ≤ b by omega)
  rw [Int.neg_mul, Int.mul_assoc] at m1
  rw [Int.mul_assoc] at m2
  rw [Int.mul_comm y b] at m3
  generalize hD : b * y = dd at *
  generalize hN : a * y - x * b = nn at *
  generalize gcdZ nn dd = g at *
  generalize (ratF nn dd).1 = p at *
  generalize (ratF nn dd).2 = q at *
  obtain ⟨e1, e2⟩ := hm
  have n1 : -((K + 1) * q) * g ≤ p * g := by
    rw [← e1, Int.neg_mul, Int.mul_assoc, ← e2, Int.add_mul, Int.one_mul]
    omega
  have n2 : p * g ≤ (K + 1) * q * g := by
    rw [← e1, Int.mul_assoc, ← e2, Int.add_mul, Int.one_mul]
    omega
  exact ⟨⟨Int.le_of_mul_le_mul_right n1 hg, Int.le_of_mul_le_mul_right n2 hg⟩, hp.1, by omega⟩
theorem rest_bd {f : Nat → Rt} {k : Nat} : ∀ i, (∀ r, r < i → Chc (f r)) → (-(((i : Int) + 1) * (restP f k i).2) ≤ (restP f k i).1 ∧ (restP f k i).1 ≤ ((i : Int) + 1) * (restP f k i).2) ∧ 0 < (restP f k i).2 ∧ (restP f k i).2 ≤ 200 ^ i
  | 0, _ => by simp [restP]
  | i + 1, h => by
    have ih := rest_bd (f := f) (k := k) i (fun r hr => h r (by omega))
    have hc := h i (by omega)
    unfold restP
    split
    · obtain ⟨⟨h1, h2⟩, h3, h4⟩ := ih
      have e : (((i + 1 : Nat) : Int) + 1) * (restP f k i).2 = ((i : Int) + 1) * (restP f k i).2 + (restP f k i).2 := by
        rw [show (((i + 1 : Nat) : Int) + 1) = ((i : Int) + 1) + 1 by omega, Int.add_mul, Int.one_mul]
      have e2 : (200 : Int) ^ (i + 1) = 200 ^ i * 200 := Int.pow_succ _ _
      omega
    · have := minus_bd (a := (restP f k i).1) (b := (restP f k i).2) (x := (f i).1) (y := (f i).2) (K := (i : Int) + 1) (D := 200 ^ i) hc ih.2 (by omega) ih.1
      rw [show (((i + 1 : Nat) : Int) + 1) = ((i : Int) + 1) + 1 by omega, Int.pow_succ]
      exact this
theorem rest_few {f : Nat → Rt} {k i : Nat} (hi : i ≤ 5) (h : ∀ r, r < i → Chc (f r)) : (-2000000000000 ≤ (restP f k i).1 ∧ (restP f k i).1 ≤ 2000000000000) ∧ 0 < (restP f k i).2 ∧ (restP f k i).2 ≤ 320000000000 := by
  have hb := rest_bd (f := f) (k := k) i h
  have e : (200 : Int) ^ i ≤ 320000000000 := by
    have : i = 0 ∨ i = 1 ∨ i = 2 ∨ i = 3 ∨ i = 4 ∨ i = 5 := by omega
    rcases this with rfl | rfl | rfl | rfl | rfl | rfl <;> decide
  have e2 : ((i : Int) + 1) * (restP f k i).2 ≤ 6 * (restP f k i).2 := Int.mul_le_mul_of_nonneg_right (by omega) (by omega)
  omega
theorem pe1 {x y : Int} (hx : -2000000000000 ≤ x ∧ x ≤ 2000000000000) (hy : -1000 ≤ y ∧ y ≤ 1000) : -2000000000000000 ≤ x * y ∧ x * y ≤ 2000000000000000 := by
  have h := Int.natAbs_mul x y
  have h2 : x.natAbs * y.natAbs ≤ 2000000000000 * 1000 := Nat.mul_le_mul (by omega) (by omega)
  omega
set_option maxHeartbeats 1000000 in
set_option maxRecDepth 20000 in
theorem rest_any (w : World) (m : Int) (A : Option Addr) (n c : Nat) (mv : Value) (f : Nat → Rt) (k : Nat) (hm : 1 ≤ m ∧ m ≤ 5) (hf : ∀ r : Nat, (r : Int) < m → Chc (f r)) :
    Calls Try.prog 117 #[.agg #[.int .i64 m, .slice A n c, mv], .agg #[.int .i64 ((f 0).1), .int .i64 ((f 0).2), .int .i64 ((f 1).1), .int .i64 ((f 1).2), .int .i64 ((f 2).1), .int .i64 ((f 2).2), .int .i64 ((f 3).1), .int .i64 ((f 3).2), .int .i64 ((f 4).1), .int .i64 ((f 4).2)], .int .i64 (k : Int)] w fun e w' => e = .returned (.agg #[.int .i64 (restP f k m.toNat).1, .int .i64 (restP f k m.toNat).2]) ∧ Below w.heap.size w w' := by
  have hq9 : ∃ M : Nat, m = (M : Int) := ⟨m.toNat, by omega⟩
  obtain ⟨M, hM⟩ := hq9
  refine enter 26 Try.func117 (by kernel_rfl) fun hA => ?_
  refine runS hA 24 [.k 3, .k 3, .k 0] xn on (by kernel_rfl) fun w1 hA => ?_
  refine loop (γ := Nat) (fun i => [(2, .int .i64 (k : Int)), (4, .pointer (some ⟨w.heap.size + 1, 0, none⟩)), (6, .pointer (some ⟨w.heap.size + 2, 0, none⟩)), (7, .pointer (some ⟨w.heap.size + 3, 0, none⟩)), (12, .int .i64 m), (13, .int .i64 (i : Int))]) (fun i => [⟨w.heap.size, .cells #[.int .i64 m, .slice A n c, mv] 100 (0, 0)⟩, ⟨w.heap.size + 1, .cells (rtC f) 111 (0, 0)⟩, ⟨w.heap.size + 2, .cells #[.int .i64 0, .int .i64 0] 23 (0, 0)⟩, ⟨w.heap.size + 3, .cells #[.int .i64 ((restP f k i).1), .int .i64 ((restP f k i).2)] 23 (0, 0)⟩]) (fun _ => []) (fun g i wr => i ≤ M ∧ g = M - i) M 0 [true, true, true, true] hA (by kernel_rfl) (⟨by omega, rfl⟩) ?_
  rintro _ i wr ⟨hi, rfl⟩ J hJ hA
  by_cases hlt : i < M
  case neg =>
    refine runS hA 9 [.b false] xn (oc (dec_f (show ¬ ((i : Int) < m) by omega)) on) (by kernel_rfl) fun w2 hA => ?_
    refine leave hA (by kernel_rfl) fun hA => ?_
    refine runS hA 9 [.k 3, .k 3, .k 2, .k 2] xn on (by kernel_rfl) fun w3 hA => ?_
    exact ret (v := .agg #[.int .i64 ((restP f k i).1), .int .i64 ((restP f k i).2)]) hA [.k 2, .k 2] (by kernel_rfl) ⟨by rw [show m.toNat = i by omega], hA.below⟩
  case pos =>
    have hb := rest_few (f := f) (k := k) (i := i) (by omega) (fun r hr => hf r (by omega))
    have hci := hf i (by omega)
    unfold Chc at hci
    have hget := rtC_get (f := f) (show i < 5 by omega)
    refine runS hA 24 [.b true, .t 0] xn (oc (dec_t (show (i : Int) < m by omega)) on) (by kernel_rfl) fun w2 hA => ?_
    by_cases ht1 : (i : Int) = ((k : Int) : Int)
    case pos =>
      refine runS hA 8 [.b false, .v (.int .i64 ((i : Int) + 1))] xn (oc (ne_f ht1) (oc (show Value.int .i64 (IntKind.i64.wrap ((i : Int) + 1)) = .int .i64 ((i : Int) + 1) from wrp (by omega)) on)) (by kernel_rfl) fun w3 hA => ?_
      have hst : restP f k (i + 1) = restP f k i := if_pos (by omega)
      have hAk9 : At w w3 [⟨w.heap.size, .cells #[.int .i64 m, .slice A n c, mv] 100 (0, 0)⟩, ⟨w.heap.size + 1, .cells (rtC f) 111 (0, 0)⟩, ⟨w.heap.size + 2, .cells #[.int .i64 0, .int .i64 0] 23 (0, 0)⟩, ⟨w.heap.size + 3, .cells #[.int .i64 ((restP f k (i + 1)).1), .int .i64 ((restP f k (i + 1)).2)] 23 (0, 0)⟩] [] w3.heap.size := by rw [hst]; exact (hA.atK [⟨w.heap.size, .cells #[.int .i64 m, .slice A n c, mv] 100 (0, 0)⟩, ⟨w.heap.size + 1, .cells (rtC f) 111 (0, 0)⟩, ⟨w.heap.size + 2, .cells #[.int .i64 0, .int .i64 0] 23 (0, 0)⟩, ⟨w.heap.size + 3, .cells #[.int .i64 ((restP f k i).1), .int .i64 ((restP f k i).2)] 23 (0, 0)⟩] (by kernel_rfl)).resize
      refine reknow ⟨[⟨w.heap.size, .cells #[.int .i64 m, .slice A n c, mv] 100 (0, 0)⟩, ⟨w.heap.size + 1, .cells (rtC f) 111 (0, 0)⟩, ⟨w.heap.size + 2, .cells #[.int .i64 0, .int .i64 0] 23 (0, 0)⟩, ⟨w.heap.size + 3, .cells #[.int .i64 ((restP f k (i + 1)).1), .int .i64 ((restP f k (i + 1)).2)] 23 (0, 0)⟩], w3.heap.size, [], [], [], [], []⟩ hAk9 (Nat.zero_le _) fun hA => ?_
      refine revals hA (rc 13 (show .int .i64 ((i : Int) + 1) = .int .i64 ((i + 1 : Nat) : Int) by rw [show ((i + 1 : Nat) : Int) = (i : Int) + 1 by omega]) rn) (by kernel_rfl) fun hA => ?_
      exact again hJ (M - (i + 1)) (i + 1) [true, true, true, true] hA (by omega) (by kernel_rfl) (⟨by omega, rfl⟩)
    case neg =>
      refine runS hA 1 [.b true] xn (oc (ne_t ht1) on) (by kernel_rfl) fun w3 hA => ?_
      refine draw hA [true, true, true, true] [0, 1, 2, 3, 4] (by kernel_rfl) (by kernel_rfl) fun hA => ?_
      refine runS hA 4 [.t 0, .k 3, .k 3, .t 1, .t 2, .i, .t 3, .y 1 (.int .i64 ((f i).1)), .y 1 (.int .i64 ((f i).2))] xn (oc (show (0 : Int) ≤ ((i : Int) : Int) ∧ ((i : Int) : Int) < (5 : Int) by omega) (oc (show (rtC f)[0 + i * 2]? = some (.int .i64 ((f i).1)) from hget.1) (oc (show (rtC f)[0 + i * 2 + 1]? = some (.int .i64 ((f i).2)) from hget.2) on))) (by kernel_rfl) fun w4 hA => ?_
      have p1 := pe1 (x := (restP f k i).1) (y := (f i).2) (by omega) (by omega)
      have p2 := pe1 (x := (restP f k i).2) (y := (f i).1) (by omega) (by omega)
      have p3 := pe1 (x := (restP f k i).2) (y := (f i).2) (by omega) (by omega)
      have p4 := Int.mul_pos hb.2.1 hci.2.2.1
      rw [Int.mul_comm] at p2
      refine callB hA [] on (minus_any w4 ((restP f k i).1) ((restP f k i).2) ((f i).1) ((f i).2) (by first | omega | exact pc1 (by omega) (by omega) | exact pd1 (by omega) (by omega) | exact pd2 (by omega) (by omega)) (by first | omega | exact pc1 (by omega) (by omega) | exact pd1 (by omega) (by omega) | exact pd2 (by omega) (by omega)) (by first | omega | exact pc3 (by omega) (by omega) (by omega) (by omega)) (by first | omega | exact pcp (by omega) (by omega))) (by kernel_rfl) fun w5 hb5 hA => ?_
      refine runS hA 9 [.b false, .k 3, .k 3, .v (.int .i64 ((i : Int) + 1))] xn (oc (show Value.int .i64 (IntKind.i64.wrap ((i : Int) + 1)) = .int .i64 ((i : Int) + 1) from wrp (by omega)) on) (by kernel_rfl) fun w6 hA => ?_
      have hst : restP f k (i + 1) = ratF ((restP f k i).1 * (f i).2 - (f i).1 * (restP f k i).2) ((restP f k i).2 * (f i).2) := if_neg (by omega)
      have hAk9 : At w w6 [⟨w.heap.size, .cells #[.int .i64 m, .slice A n c, mv] 100 (0, 0)⟩, ⟨w.heap.size + 1, .cells (rtC f) 111 (0, 0)⟩, ⟨w.heap.size + 2, .cells #[.int .i64 0, .int .i64 0] 23 (0, 0)⟩, ⟨w.heap.size + 3, .cells #[.int .i64 ((restP f k (i + 1)).1), .int .i64 ((restP f k (i + 1)).2)] 23 (0, 0)⟩] [] w6.heap.size := by rw [hst]; exact (hA.atK [⟨w.heap.size, .cells #[.int .i64 m, .slice A n c, mv] 100 (0, 0)⟩, ⟨w.heap.size + 1, .cells (rtC f) 111 (0, 0)⟩, ⟨w.heap.size + 2, .cells #[.int .i64 0, .int .i64 0] 23 (0, 0)⟩, ⟨w.heap.size + 3, .cells #[.int .i64 ((ratF (((restP f k i).1) * ((f i).2) - ((f i).1) * ((restP f k i).2)) (((restP f k i).2) * ((f i).2))).1), .int .i64 ((ratF (((restP f k i).1) * ((f i).2) - ((f i).1) * ((restP f k i).2)) (((restP f k i).2) * ((f i).2))).2)] 23 (0, 0)⟩] (by kernel_rfl)).resize
      refine reknow ⟨[⟨w.heap.size, .cells #[.int .i64 m, .slice A n c, mv] 100 (0, 0)⟩, ⟨w.heap.size + 1, .cells (rtC f) 111 (0, 0)⟩, ⟨w.heap.size + 2, .cells #[.int .i64 0, .int .i64 0] 23 (0, 0)⟩, ⟨w.heap.size + 3, .cells #[.int .i64 ((restP f k (i + 1)).1), .int .i64 ((restP f k (i + 1)).2)] 23 (0, 0)⟩], w6.heap.size, [], [], [], [], []⟩ hAk9 (Nat.zero_le _) fun hA => ?_
      refine revals hA (rc 13 (show .int .i64 ((i : Int) + 1) = .int .i64 ((i + 1 : Nat) : Int) by rw [show ((i + 1 : Nat) : Int) = (i : Int) + 1 by omega]) rn) (by kernel_rfl) fun hA => ?_
      exact again hJ (M - (i + 1)) (i + 1) [true, true, true, true] hA (by omega) (by kernel_rfl) (⟨by omega, rfl⟩)
end Go.Proofs.Ytfidkgpimlpdbaa
