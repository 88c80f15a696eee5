/- Parts of a proof: VT YM ZD ZE. -/
import Derived.Test.YtbahiemjaomdcaaGreatQ14

/- quinellaref03: Running; pool: scratched runners. -/
namespace Go.Proofs.YtbahiemjaomdcaaGreat
open Go.RowKit Go.Shelf

set_option maxHeartbeats 4000000 in
set_option maxRecDepth 20000 in
theorem running_any (w : World) (B : Nat) (b : Bk) (A : Option Addr) (n c : Nat) (A2 : Option Addr) (m c2 : Nat) (h : BkAt w B b A n c A2 m c2) (hB : B ≤ w.heap.size) (V : ValidB b) : Calls Tryz.prog 49 #[bkV b A n c A2 m c2] w fun e w' => ∃ v, e = .returned v ∧ Below w.heap.size w w' ∧ w'.ownsRow w.heap.size 3 1 v (racN b).length (ints (racN b)) := by
  have hv1 := V.run
  refine enter 21 Tryz.func49 (by kernel_rfl) fun hA => ?_
  refine runS hA 18 [] xn on (by kernel_rfl) fun w1 hA => ?_
  obtain ⟨R, hR⟩ : ∃ R : Nat, b.runners = (R : Int) := ⟨b.runners.toNat, by omega⟩
  have hRt : b.runners.toNat = R := by omega
  refine loop (γ := Nat × Option Addr × Nat × List KB) (fun ⟨k, Av, cv, ov⟩ => [(1, .pointer (some ⟨w.heap.size, 0, none⟩)), (2, .slice none 0 0), (3, .slice Av ((racL b k).length) cv), (4, .int .i64 (k : Int))]) (fun ⟨k, Av, cv, ov⟩ => [⟨w.heap.size, .cells #[.int .i64 b.kind, .int .i64 b.runners, .slice A n c, .slice A2 m c2, .bool b.fav, .int .i64 b.car, .int .i64 b.dut, .int .i64 b.stp] 25 (0, 0)⟩]) (fun ⟨k, Av, cv, ov⟩ => ov ++ []) (fun g ⟨k, Av, cv, ov⟩ wr => (k ≤ R ∧ g = R - k) ∧ RowV 3 1 (.slice Av (racL b k).length cv) (racL b k).length (ints (racL b k)) ov) R ⟨0, none, 0, []⟩ [true] hA (by kernel_rfl) (⟨⟨Nat.zero_le _, rfl⟩, RowV.nil _ _⟩) ?_
  rintro _ ⟨k, Av, cv, ov⟩ wr ⟨⟨hk, rfl⟩, hrk⟩ J hJ hA
  have hll := racL_len b k
  by_cases hlk : k < R
  case neg =>
    refine runS hA 12 [.k 0, .b false] xn (oc (dec_f (show ¬ (((k : Int) : Int) < (b.runners : Int)) by omega)) on) (by kernel_rfl) fun w2 hA => ?_
    refine leave hA (by kernel_rfl) fun hA => ?_
    refine runS hA 9 [] xn on (by kernel_rfl) fun w3 hA => ?_
    have hAf := hA.atK [⟨w.heap.size, .cells #[.int .i64 b.kind, .int .i64 b.runners, .slice A n c, .slice A2 m c2, .bool b.fav, .int .i64 b.car, .int .i64 b.dut, .int .i64 b.stp] 25 (0, 0)⟩] (by kernel_rfl)
    have hkR : k = b.runners.toNat := by omega
    rw [hkR] at hrk
    exact ret (v := .slice Av ((racL b k).length) cv) hA [] (by kernel_rfl) ⟨_, by rw [hkR], hA.below, RowV.own (rest := []) hrk hAf⟩
  case pos =>
    refine runS hA 19 [.k 0, .b true, .k 0] xn (oc (dec_t (show (((k : Int) : Int) < (b.runners : Int)) by omega)) on) (by kernel_rfl) fun w2 hA => ?_
    refine callB hA [] on (has_any w2 B A2 m c2 b.scr (k : Int) (h.scr.below hA.below hB) (Nat.le_trans hB hA.size)) (by kernel_rfl) fun w3 hb3 hA => ?_
    by_cases hks : (k : Int) ∈ b.scr
    case pos =>
      refine revals hA (rc 14 (show .bool (decide ((k : Int) ∈ b.scr)) = .bool true by rw [decide_eq_true hks]) rn) (by kernel_rfl) fun hA => ?_
      refine runS hA 12 [] xn on (by kernel_rfl) fun w4 hA => ?_
      have hst : (racL b (k + 1)) = (racL b k) := by rw [racL, if_pos hks, List.append_nil]
      refine revals hA (rc 3 (show .slice Av ((racL b k).length) cv = .slice Av ((racL b (k + 1)).length) cv by rw [hst]) (rc 4 (wr64 (x := (k : Int) + 1) (y := ((k + 1 : Nat) : Int)) (by omega) (by omega)) rn)) (by kernel_rfl) fun hA => ?_
      exact again hJ (R - (k + 1)) (⟨k + 1, Av, cv, ov⟩) [true] hA (by omega) (by kernel_rfl) (⟨⟨by omega, rfl⟩, by rw [hst]; exact hrk⟩)
    case neg =>
      refine revals hA (rc 14 (show .bool (decide ((k : Int) ∈ b.scr)) = .bool false by rw [decide_eq_false hks]) rn) (by kernel_rfl) fun hA => ?_
      refine runS hA 8 [] xn on (by kernel_rfl) fun w4 hA => ?_
      have hst : (racL b (k + 1)) = (racL b k) ++ [(k : Int)] := by rw [racL, if_neg hks]
      have hcl := cell_of_obj (a := ⟨w3.heap.size, 0, none⟩) (hA.at_.ok ⟨w3.heap.size, .cells #[.int .i64 (k : Int)] 3 (0, 0)⟩ (List.mem_of_getElem? (i := 1) (by kernel_rfl))) rfl rfl
      refine appE (t := 23) (e := 3) (ty := 23) (z := .int .i64 0) (size := 1) (bytes := 8) (v := .slice Av (racL b k).length cv) (n := (racL b k).length) (m := 1) (cp := 1) (A := some ⟨w3.heap.size, 0, none⟩) [.int .i64 (k : Int)] hA hrk (by kernel_rfl) rfl (fun _ => ⟨_, rfl, fun q u hu => by match q, hu with | 0, hu => cases hu; exact hcl⟩) rfl (by omega) (by omega) fun v2 w5 ob2 hr2 hnil2 hat2 hsz2 hA => ?_
      have hle : (racL b (k + 1)).length = (racL b k).length + 1 := by rw [hst, List.length_append]; rfl
      obtain ⟨g2, c2', rfl⟩ : ∃ g2 c2', v2 = .slice (some ⟨g2, 0, none⟩) ((racL b k).length + 1) c2' := by
        rcases hr2.2 with ⟨-, h9, -⟩ | ⟨g2, c2', u2, h1, -⟩
        · omega
        · exact ⟨g2, c2', h1⟩
      refine runS hA 9 [] xn on (by kernel_rfl) fun w6 hA => ?_
      have hrk2 : RowV 3 1 (.slice (some ⟨g2, 0, none⟩) (racL b (k + 1)).length c2') (racL b (k + 1)).length (ints (racL b (k + 1))) ob2 := by rw [hle, hst, ints_append]; exact hr2
      refine revals hA (rc 3 (show .slice (some ⟨g2, 0, none⟩) ((racL b k).length + 1) c2' = .slice (some ⟨g2, 0, none⟩) ((racL b (k + 1)).length) c2' by rw [hle]) (rc 4 (wr64 (x := (k : Int) + 1) (y := ((k + 1 : Nat) : Int)) (by omega) (by omega)) rn)) (by kernel_rfl) fun hA => ?_
      exact again hJ (R - (k + 1)) (⟨k + 1, some ⟨g2, 0, none⟩, c2', ob2⟩) [true] hA (by omega) (by kernel_rfl) (⟨⟨by omega, rfl⟩, hrk2⟩)
end Go.Proofs.YtbahiemjaomdcaaGreat

/- Symbolic runs: a row that becomes a known block. -/
namespace Go.Proofs.YtbahiemjaomdcaaGreat
open Go.RowKit Go.Shelf

theorem U8At.more {w : World} {B B' : Nat} {A : Option Addr} {n : Nat} {xs : List Int} (h : U8At w B A n xs) (hB : B ≤ B') : U8At w B' A n xs :=
  ⟨h.1, h.2.1, fun h0 => by obtain ⟨b, off, e, hlt, hc⟩ := h.2.2 h0; exact ⟨b, off, e, Nat.lt_of_lt_of_le hlt hB, hc⟩⟩
/-- A row's block, as one that is known. -/
theorem At.up {w0 w : World} {kn rows : List KB} {kb : KB} {sz : Nat} (h : At w0 w kn (kb :: rows) sz) : At w0 w (kn ++ [kb]) rows sz := by
  refine ⟨fun x hx => ?_, fun x hx => h.rok x (List.mem_cons_of_mem _ hx), fun x hx => ?_, fun x hx => h.rlow x (List.mem_cons_of_mem _ hx), ?_, h.size, h.below⟩
  · rcases List.mem_append.1 hx with hx | hx
    · exact h.ok x hx
    · rw [List.mem_singleton.1 hx]; exact h.rok kb List.mem_cons_self
  · rcases List.mem_append.1 hx with hx | hx
    · exact h.low x hx
    · rw [List.mem_singleton.1 hx]; exact h.rlow kb List.mem_cons_self
  · refine ((List.Perm.map KB.id ?_).nodup_iff).1 h.nd
    rw [← List.append_assoc]
    exact (List.perm_append_singleton kb (rows ++ kn)).symm
end Go.Proofs.YtbahiemjaomdcaaGreat

/- quinellaref03: On, Net. -/
namespace Go.Proofs.YtbahiemjaomdcaaGreat
open Go.RowKit Go.Shelf

/-- What a bet is on; no spot, if it is given back. -/
def onP (b : Bk) (x : Bet) : Int × Int := if okT (tilF b) x = true then spX (tilF b) x else (0, 0)
theorem alone_iff {b : Bk} (V : ValidB b) {x : Bet} (hx : x ∈ b.bets) : (b.kind = 0 ∨ b.kind = 1) ↔ x.second = -1 := by
  have h1 := V.bet x hx
  have h2 := (V.first hx)
  have hk := V.kind
  rw [refuses_rest h2] at h1
  constructor
  · intro h
    rw [if_neg (by omega), if_neg (by omega)] at h1
    simpa using h1
  · intro h
    by_cases e2 : b.kind = 2
    · rw [if_pos e2, isR_false (by omega)] at h1
      cases h1
    · by_cases e3 : b.kind = 3
      · rw [if_neg e2, if_pos e3, isR_false (by omega)] at h1
        cases h1
      · omega
theorem okF_yes {b : Bk} {x : Bet} (h1 : x.first ∉ b.scr) (h2 : x.second ∉ b.scr) : okF b x = true := by unfold okF; rw [decide_eq_false h1, decide_eq_false h2]; rfl
theorem okF_no {b : Bk} {x : Bet} (h : x.first ∈ b.scr ∨ x.second ∈ b.scr) : okF b x = false := by
  unfold okF
  rcases h with h | h
  · rw [decide_eq_true h]; rfl
  · rw [decide_eq_true h, Bool.not_true, Bool.and_false]
theorem on_yes {b : Bk} {x : Bet} (h1 : x.first ∉ b.scr) (h2 : x.second ∉ b.scr) : okT (tilF b) x = true ∧ onP b x = (x.first, x.second) := by
  have e := okF_yes h1 h2
  have et : toHeir (tilF b) x = false := by unfold toHeir; rw [show okF (tilF b).b x = true from e]; rfl
  have eo : okT (tilF b) x = true := by unfold okT; rw [show okF (tilF b).b x = true from e]; rfl
  refine ⟨eo, ?_⟩
  unfold onP spX s1T
  rw [if_pos eo, et]
  rfl
theorem on_heir {b : Bk} (V : ValidB b) {x : Bet} (hx : x ∈ b.bets) (h : x.first ∈ b.scr ∨ x.second ∈ b.scr) (ha : b.kind = 0 ∨ b.kind = 1) (hf : b.fav = true) : okT (tilF b) x = true ∧ onP b x = (favF b, -1) := by
  have e := okF_no h
  have h2 := (alone_iff V hx).1 ha
  have et : toHeir (tilF b) x = true := by
    unfold toHeir
    rw [show okF (tilF b).b x = false from e, show (tilF b).b.fav = true from hf, h2]
    rfl
  have eo : okT (tilF b) x = true := by unfold okT; rw [et, Bool.or_true]
  refine ⟨eo, ?_⟩
  unfold onP spX s1T
  rw [if_pos eo, if_pos et, h2]
  rfl
theorem on_no {b : Bk} (V : ValidB b) {x : Bet} (hx : x ∈ b.bets) (h : x.first ∈ b.scr ∨ x.second ∈ b.scr) (ha : ¬ ((b.kind = 0 ∨ b.kind = 1) ∧ b.fav = true)) : okT (tilF b) x = false ∧ onP b x = (0, 0) := by
  have e := okF_no h
  have et : toHeir (tilF b) x = false := by
    unfold toHeir
    rw [show okF (tilF b).b x = false from e, show (tilF b).b.fav = b.fav from rfl]
    by_cases hf : b.fav = true
    · have h2 : ¬ x.second = -1 := fun h9 => ha ⟨(alone_iff V hx).2 h9, hf⟩
      rw [hf, show (x.second == -1) = false by simpa using h2]
      rfl
    · rw [show b.fav = false by simpa using hf]
      rfl
  have eo : okT (tilF b) x = false := by unfold okT; rw [et, show okF (tilF b).b x = false from e]; rfl
  refine ⟨eo, ?_⟩
  unfold onP
  rw [if_neg (by rw [eo]; decide)]
/-- The account as far as the net. -/
def netA (b : Bk) : Acc := ⟨(tilF b).a.inn, (tilF b).a.back, (tilF b).a.duty, 0, 0, netF (tilF b).a⟩
set_option maxHeartbeats 1000000 in
set_option maxRecDepth 20000 in
theorem rOn_any (w : World) (B : Nat) (b : Bk) (A : Option Addr) (n c : Nat) (A2 : Option Addr) (m c2 : Nat) (x : Bet) (h : BkAt w B b A n c A2 m c2) (hB : B ≤ w.heap.size) (V : ValidB b) (hx : x ∈ b.bets) : Calls Tryz.prog 44 #[bkV b A n c A2 m c2, betV x] w fun e w' => e = .returned (.tuple #[.agg #[.int .i64 (onP b x).1, .int .i64 (onP b x).2], .bool (okT (tilF b) x)]) ∧ Below w.heap.size w w' := by
  refine enter 36 Tryz.func44 (by kernel_rfl) fun hA => ?_
  refine runS hA 15 [.k 0, .k 1] xn on (by kernel_rfl) fun w1 hA => ?_
  refine callB hA [] on (has_any w1 B A2 m c2 b.scr x.first (h.scr.below hA.below hB) (Nat.le_trans hB hA.size)) (by kernel_rfl) fun w2 hb2 hA => ?_
  by_cases h1 : x.first ∈ b.scr
  case pos =>
    refine revals hA (rc 10 (show .bool (decide (x.first ∈ b.scr)) = .bool true by rw [decide_eq_true h1]) rn) (by kernel_rfl) fun hA => ?_
    have hor : x.first ∈ b.scr ∨ x.second ∈ b.scr := .inl h1
    refine runS hA 19 (List.replicate 6 (.g false) ++ [.k 0]) xn (oc (rfl : Value.bool false = .bool false) (oc (rfl : Value.bool false = .bool false) (oc (rfl : Value.bool false = .bool false) (oc (rfl : Value.bool false = .bool false) (oc (rfl : Value.bool false = .bool false) (oc (rfl : Value.bool false = .bool false) on)))))) (by kernel_rfl) fun w3 hA => ?_
    refine callB hA [] on (alone_any w3 b.kind) (by kernel_rfl) fun w4 hb4 hA => ?_
    by_cases hal : b.kind = 0 ∨ b.kind = 1
    case neg =>
      refine revals hA (rc 27 (show .bool (decide (b.kind = 0 ∨ b.kind = 1)) = .bool false by rw [decide_eq_false hal]) rn) (by kernel_rfl) fun hA => ?_
      refine runS hA 17 [.g false, .g false, .k 2, .k 2] xn (oc (rfl : Value.bool false = .bool false) (oc (rfl : Value.bool false = .bool false) on)) (by kernel_rfl) fun w5 hA => ?_
      have ho := on_no V hx hor (fun h9 => hal h9.1)
      exact ret (v := .tuple #[.agg #[.int .i64 0, .int .i64 0], .bool false]) hA [.k 2, .k 2] (by kernel_rfl) ⟨by rw [ho.1, ho.2], hA.below⟩
    case pos =>
      refine revals hA (rc 27 (show .bool (decide (b.kind = 0 ∨ b.kind = 1)) = .bool true by rw [decide_eq_true hal]) rn) (by kernel_rfl) fun hA => ?_
      refine runS hA 3 [.g true, .g true, .k 0] xn (oc (rfl : Value.bool true = .bool true) (oc (rfl : Value.bool true = .bool true) on)) (by kernel_rfl) fun w5 hA => ?_
      by_cases hfv : b.fav = true
      case neg =>
        refine revals hA (rc 30 (show .bool b.fav = .bool false by rw [show b.fav = false by simpa using hfv]) rn) (by kernel_rfl) fun hA => ?_
        refine runS hA 14 [.k 2, .k 2] xn on (by kernel_rfl) fun w6 hA => ?_
        have ho := on_no V hx hor (fun h9 => hfv h9.2)
        exact ret (v := .tuple #[.agg #[.int .i64 0, .int .i64 0], .bool false]) hA [.k 2, .k 2] (by kernel_rfl) ⟨by rw [ho.1, ho.2], hA.below⟩
      case pos =>
        refine revals hA (rc 30 (show .bool b.fav = .bool true by rw [hfv]) rn) (by kernel_rfl) fun hA => ?_
        refine runS hA 7 (List.replicate 8 (.k 0)) xn on (by kernel_rfl) fun w6 hA => ?_
        refine callB hA [] on (favouriteOf_any w6 B b A n c A2 m c2 (h.below hA.below hB) (Nat.le_trans hB hA.size) V) (by kernel_rfl) fun w7 hb7 hA => ?_
        refine runS hA 7 [.k 2, .k 2] xn on (by kernel_rfl) fun w8 hA => ?_
        have ho := on_heir V hx hor hal hfv
        exact ret (v := .tuple #[.agg #[.int .i64 (favF b), .int .i64 (-1)], .bool true]) hA [.k 2, .k 2] (by kernel_rfl) ⟨by rw [ho.1, ho.2], hA.below⟩
  case neg =>
    refine revals hA (rc 10 (show .bool (decide (x.first ∈ b.scr)) = .bool false by rw [decide_eq_false h1]) rn) (by kernel_rfl) fun hA => ?_
    refine runS hA 6 [.g true, .g true, .k 0, .g true, .g true, .k 1] xn (oc (rfl : Value.bool true = .bool true) (oc (rfl : Value.bool true = .bool true) (oc (rfl : Value.bool true = .bool true) (oc (rfl : Value.bool true = .bool true) on)))) (by kernel_rfl) fun w3 hA => ?_
    refine callB hA [] on (has_any w3 B A2 m c2 b.scr x.second (h.scr.below hA.below hB) (Nat.le_trans hB hA.size)) (by kernel_rfl) fun w4 hb4 hA => ?_
    by_cases h2 : x.second ∈ b.scr
    case pos =>
      refine revals hA (rc 17 (show .bool (decide (x.second ∈ b.scr)) = .bool true by rw [decide_eq_true h2]) rn) (by kernel_rfl) fun hA => ?_
      have hor : x.first ∈ b.scr ∨ x.second ∈ b.scr := .inr h2
      refine runS hA 12 [.g true, .k 0] xn (oc (rfl : Value.bool true = .bool true) on) (by kernel_rfl) fun w5 hA => ?_
      refine callB hA [] on (alone_any w5 b.kind) (by kernel_rfl) fun w6 hb6 hA => ?_
      by_cases hal : b.kind = 0 ∨ b.kind = 1
      case neg =>
        refine revals hA (rc 27 (show .bool (decide (b.kind = 0 ∨ b.kind = 1)) = .bool false by rw [decide_eq_false hal]) rn) (by kernel_rfl) fun hA => ?_
        refine runS hA 17 [.g false, .g false, .k 2, .k 2] xn (oc (rfl : Value.bool false = .bool false) (oc (rfl : Value.bool false = .bool false) on)) (by kernel_rfl) fun w7 hA => ?_
        have ho := on_no V hx hor (fun h9 => hal h9.1)
        exact ret (v := .tuple #[.agg #[.int .i64 0, .int .i64 0], .bool false]) hA [.k 2, .k 2] (by kernel_rfl) ⟨by rw [ho.1, ho.2], hA.below⟩
      case pos =>
        refine revals hA (rc 27 (show .bool (decide (b.kind = 0 ∨ b.kind = 1)) = .bool true by rw [decide_eq_true hal]) rn) (by kernel_rfl) fun hA => ?_
        refine runS hA 3 [.g true, .g true, .k 0] xn (oc (rfl : Value.bool true = .bool true) (oc (rfl : Value.bool true = .bool true) on)) (by kernel_rfl) fun w7 hA => ?_
        by_cases hfv : b.fav = true
        case neg =>
          refine revals hA (rc 30 (show .bool b.fav = .bool false by rw [show b.fav = false by simpa using hfv]) rn) (by kernel_rfl) fun hA => ?_
          refine runS hA 14 [.k 2, .k 2] xn on (by kernel_rfl) fun w8 hA => ?_
          have ho := on_no V hx hor (fun h9 => hfv h9.2)
          exact ret (v := .tuple #[.agg #[.int .i64 0, .int .i64 0], .bool false]) hA [.k 2, .k 2] (by kernel_rfl) ⟨by rw [ho.1, ho.2], hA.below⟩
        case pos =>
          refine revals hA (rc 30 (show .bool b.fav = .bool true by rw [hfv]) rn) (by kernel_rfl) fun hA => ?_
          refine runS hA 7 (List.replicate 8 (.k 0)) xn on (by kernel_rfl) fun w8 hA => ?_
          refine callB hA [] on (favouriteOf_any w8 B b A n c A2 m c2 (h.below hA.below hB) (Nat.le_trans hB hA.size) V) (by kernel_rfl) fun w9 hb9 hA => ?_
          refine runS hA 7 [.k 2, .k 2] xn on (by kernel_rfl) fun w10 hA => ?_
          have ho := on_heir V hx hor hal hfv
          exact ret (v := .tuple #[.agg #[.int .i64 (favF b), .int .i64 (-1)], .bool true]) hA [.k 2, .k 2] (by kernel_rfl) ⟨by rw [ho.1, ho.2], hA.below⟩
    case neg =>
      refine revals hA (rc 17 (show .bool (decide (x.second ∈ b.scr)) = .bool false by rw [decide_eq_false h2]) rn) (by kernel_rfl) fun hA => ?_
      refine runS hA 18 [.g true, .k 1, .k 1, .k 2, .k 2] xn (oc (rfl : Value.bool true = .bool true) on) (by kernel_rfl) fun w5 hA => ?_
      have ho := on_yes h1 h2
      exact ret (v := .tuple #[.agg #[.int .i64 x.first, .int .i64 x.second], .bool true]) hA [.k 2, .k 2] (by kernel_rfl) ⟨by rw [ho.1, ho.2], hA.below⟩
set_option maxHeartbeats 1000000 in
set_option maxRecDepth 20000 in
theorem rNet_any (w : World) (B : Nat) (b : Bk) (A : Option Addr) (n c : Nat) (A2 : Option Addr) (m c2 : Nat) (h : BkAt w B b A n c A2 m c2) (hB : B ≤ w.heap.size) (V : ValidB b) : Calls Tryz.prog 23 #[bkV b A n c A2 m c2] w fun e w' => e = .returned (.agg (accC (netA b))) ∧ Below w.heap.size w w' := by
  have hbl := h.bets.1
  have hv2 := V.len
  have hcar := V.car
  have hdut := V.dut
  refine enter 74 Tryz.func23 (by kernel_rfl) fun hA => ?_
  refine runS hA 22 ([.k 0] ++ List.replicate 6 (.k 2)) xn on (by kernel_rfl) fun w1 hA => ?_
  have hz1 : (sumF allB (b.bets.take 0) * 100 + b.car) = b.car := by rw [List.take_zero]; simp [sumF]
  have hz2 : (sumF (notOn (tilF b)) (b.bets.take 0) * 100) = 0 := by rw [List.take_zero]; simp [sumF]
  have hAk9 : At w w1 [⟨w.heap.size, .cells #[.int .i64 b.kind, .int .i64 b.runners, .slice A n c, .slice A2 m c2, .bool b.fav, .int .i64 b.car, .int .i64 b.dut, .int .i64 b.stp] 25 (0, 0)⟩, ⟨w.heap.size + 1, .cells #[.int .i64 0, .int .i64 0, .int .i64 0, .int .i64 0, .int .i64 0, .int .i64 0] 35 (0, 0)⟩, ⟨w.heap.size + 2, .cells #[.int .i64 (sumF allB (b.bets.take 0) * 100 + b.car), .int .i64 (sumF (notOn (tilF b)) (b.bets.take 0) * 100), .int .i64 0, .int .i64 0, .int .i64 0, .int .i64 0] 35 (0, 0)⟩] [] w1.heap.size := by rw [hz1, hz2]; exact (hA.atK [⟨w.heap.size, .cells #[.int .i64 b.kind, .int .i64 b.runners, .slice A n c, .slice A2 m c2, .bool b.fav, .int .i64 b.car, .int .i64 b.dut, .int .i64 b.stp] 25 (0, 0)⟩, ⟨w.heap.size + 1, .cells #[.int .i64 0, .int .i64 0, .int .i64 0, .int .i64 0, .int .i64 0, .int .i64 0] 35 (0, 0)⟩, ⟨w.heap.size + 2, .cells #[.int .i64 b.car, .int .i64 0, .int .i64 0, .int .i64 0, .int .i64 0, .int .i64 0] 35 (0, 0)⟩] (by kernel_rfl)).resize
  refine reknow ⟨[⟨w.heap.size, .cells #[.int .i64 b.kind, .int .i64 b.runners, .slice A n c, .slice A2 m c2, .bool b.fav, .int .i64 b.car, .int .i64 b.dut, .int .i64 b.stp] 25 (0, 0)⟩, ⟨w.heap.size + 1, .cells #[.int .i64 0, .int .i64 0, .int .i64 0, .int .i64 0, .int .i64 0, .int .i64 0] 35 (0, 0)⟩, ⟨w.heap.size + 2, .cells #[.int .i64 (sumF allB (b.bets.take 0) * 100 + b.car), .int .i64 (sumF (notOn (tilF b)) (b.bets.take 0) * 100), .int .i64 0, .int .i64 0, .int .i64 0, .int .i64 0] 35 (0, 0)⟩], w1.heap.size, [], [], [], [], []⟩ hAk9 (Nat.zero_le _) fun hA => ?_
  refine loop (γ := Nat) (fun i => [(1, .pointer (some ⟨w.heap.size, 0, none⟩)), (2, .pointer (some ⟨w.heap.size + 1, 0, none⟩)), (3, .pointer (some ⟨w.heap.size + 2, 0, none⟩)), (4, .int .i64 (i : Int))]) (fun i => [⟨w.heap.size, .cells #[.int .i64 b.kind, .int .i64 b.runners, .slice A n c, .slice A2 m c2, .bool b.fav, .int .i64 b.car, .int .i64 b.dut, .int .i64 b.stp] 25 (0, 0)⟩, ⟨w.heap.size + 1, .cells #[.int .i64 0, .int .i64 0, .int .i64 0, .int .i64 0, .int .i64 0, .int .i64 0] 35 (0, 0)⟩, ⟨w.heap.size + 2, .cells #[.int .i64 (sumF allB (b.bets.take i) * 100 + b.car), .int .i64 (sumF (notOn (tilF b)) (b.bets.take i) * 100), .int .i64 0, .int .i64 0, .int .i64 0, .int .i64 0] 35 (0, 0)⟩]) (fun _ => []) (fun g i wr => i ≤ n ∧ g = n - i) n 0 [true, true, true] hA (by kernel_rfl) (⟨Nat.zero_le _, rfl⟩) ?_
  rintro _ i wr ⟨hi, rfl⟩ J hJ hA
  have hs1 := sumF_bound allB (b.bets.take i) (fun x hx => units_ok V x (List.mem_of_mem_take hx))
  have hs2 := sumF_bound (notOn (tilF b)) (b.bets.take i) (fun x hx => units_ok V x (List.mem_of_mem_take hx))
  have htl : (b.bets.take i).length ≤ 100 := by rw [List.length_take]; omega
  have hs3 := sumF_le (notOn (tilF b)) allB (b.bets.take i) (fun x hx => (units_ok V x (List.mem_of_mem_take hx)).1) (fun x _ => rfl)
  by_cases hlt : i < n
  case neg =>
    refine runS hA 13 [.k 0, .b false] xn (oc (dec_f (show ¬ (((i : Int) : Int) < (n : Int)) by omega)) on) (by kernel_rfl) fun w2 hA => ?_
    refine leave hA (by kernel_rfl) fun hA => ?_
    have hib : b.bets.take i = b.bets := List.take_of_length_le (by omega)
    have hq9 : ∃ U, U = sumF allB (b.bets.take i) := ⟨_, rfl⟩
    obtain ⟨U, hU⟩ := hq9
    have hq9 : ∃ K, K = sumF (notOn (tilF b)) (b.bets.take i) := ⟨_, rfl⟩
    obtain ⟨K, hK⟩ := hq9
    rw [← hU] at hs1 hs3
    rw [← hK] at hs2 hs3
    have hd1 : 0 ≤ (U - K) * 100 * b.dut := Int.mul_nonneg (by omega) hdut.1
    have hd2 : (U - K) * 100 * b.dut ≤ 10000000 * 500 := Int.mul_le_mul (by omega) (by omega) (by omega) (by omega)
    have ha1 : (tilF b).a.inn = U * 100 + b.car := by rw [hU, hib]; rfl
    have ha2 : (tilF b).a.back = K * 100 := by rw [hK, hib]; rfl
    have ha3 : (tilF b).a.duty = ((U - K) * 100 * b.dut).tdiv 1000 := by rw [hU, hK, hib]; rfl
    have hq0 : ((U - K) * 100 * b.dut).tdiv 1000 = ((U - K) * 100 * b.dut) / 1000 := Int.tdiv_eq_ediv_of_nonneg hd1
    refine runS hA 15 [.k 2, .k 2, .k 0, .k 0] xn on (by kernel_rfl) fun w3 hA => ?_
    have hw1 : IntKind.i64.wrap ((sumF allB (b.bets.take i) * 100 + b.car) - (sumF (notOn (tilF b)) (b.bets.take i) * 100)) = U * 100 + b.car - K * 100 := by rw [← hU, ← hK, IntKind.wrap_i64]; omega
    have hw2 : IntKind.i64.wrap (U * 100 + b.car - K * 100 - b.car) = (U - K) * 100 := by rw [IntKind.wrap_i64]; omega
    refine revals hA (rc 61 (show .int .i64 (IntKind.i64.wrap ((IntKind.i64.wrap ((IntKind.i64.wrap ((sumF allB (b.bets.take i) * 100 + b.car) - (sumF (notOn (tilF b)) (b.bets.take i) * 100))) - b.car)) * b.dut)) = .int .i64 ((U - K) * 100 * b.dut) by rw [hw1, hw2, IntKind.wrap_i64]; congr 1; omega) rn) (by kernel_rfl) fun hA => ?_
    refine runS hA 1 [] xn on (by kernel_rfl) fun w4 hA => ?_
    refine revals hA (rc 62 (show .int .i64 (IntKind.i64.wrap (((U - K) * 100 * b.dut).tdiv 1000)) = .int .i64 ((tilF b).a.duty) by rw [ha3, IntKind.wrap_i64]; congr 1; omega) rn) (by kernel_rfl) fun hA => ?_
    refine runS hA 14 (List.replicate 4 (.k 2)) xn on (by kernel_rfl) fun w5 hA => ?_
    refine revals hA (rc 71 (show .int .i64 (IntKind.i64.wrap ((IntKind.i64.wrap ((sumF allB (b.bets.take i) * 100 + b.car) - (sumF (notOn (tilF b)) (b.bets.take i) * 100))) - ((tilF b).a.duty))) = .int .i64 (netF (tilF b).a) by rw [hw1]; unfold netF; rw [ha1, ha2, ha3]; simp only [IntKind.wrap_i64]; congr 1; omega) rn) (by kernel_rfl) fun hA => ?_
    refine runS hA 11 (List.replicate 7 (.k 2) ++ List.replicate 6 (.k 1)) xn on (by kernel_rfl) fun w6 hA => ?_
    exact ret (v := .agg #[.int .i64 (sumF allB (b.bets.take i) * 100 + b.car), .int .i64 (sumF (notOn (tilF b)) (b.bets.take i) * 100), .int .i64 ((tilF b).a.duty), .int .i64 0, .int .i64 0, .int .i64 (netF (tilF b).a)]) hA (List.replicate 6 (.k 1)) (by kernel_rfl) ⟨by unfold netA; rw [ha1, ha2, ← hU, ← hK], hA.below⟩
  case pos =>
    have hq9 := h.bets.at hlt
    obtain ⟨b1, off, rfl, hb1, k0, k1, k2⟩ := hq9
    have hlb1 : b1 < w.heap.size := Nat.lt_of_lt_of_le hb1 hB
    have hxm : (b.bets[i]?.getD noBet) ∈ b.bets := get_mem (by omega)
    have hux := units_ok V _ hxm
    have ht1 := sumF_take allB b.bets (k := i) (x := (b.bets[i]?.getD noBet)) (by omega) rfl
    rw [if_pos (show allB (b.bets[i]?.getD noBet) = true from rfl)] at ht1
    have ht2 := sumF_take (notOn (tilF b)) b.bets (k := i) (x := (b.bets[i]?.getD noBet)) (by omega) rfl
    refine runS hA 16 [.k 0, .b true] xn (oc (dec_t (show (((i : Int) : Int) < (n : Int)) by omega)) on) (by kernel_rfl) fun w2 hA => ?_
    refine draw hA [true, true, true] [0, 1, 2, 3, 4, 5, 6, 7, 8, 9, 10] (by kernel_rfl) (by kernel_rfl) fun hA => ?_
    refine runS hA 10 [.t 0, .t 1, .k 2, .t 2, .t 3, .k 0, .t 4, .t 5, .i, .t 6, .t 7, .x (.int .i64 ((b.bets[i]?.getD noBet).units)), .t 8, .t 9] (xc (a := ⟨b1, off + i * 3 + 2, none⟩) ⟨hlb1, k2⟩ xn) (oc (show (0 : Int) ≤ ((i : Int) : Int) ∧ ((i : Int) : Int) < (n : Int) by omega) on) (by kernel_rfl) fun w3 hA => ?_
    refine revals hA (rc 26 (show .int .i64 (IntKind.i64.wrap ((sumF allB (b.bets.take i) * 100 + b.car) + (IntKind.i64.wrap (100 * ((b.bets[i]?.getD noBet).units))))) = .int .i64 (sumF allB (b.bets.take (i + 1)) * 100 + b.car) by rw [ht1]; simp only [IntKind.wrap_i64]; congr 1; omega) rn) (by kernel_rfl) fun hA => ?_
    refine runS hA 6 [.t 10, .b false, .k 2] xn on (by kernel_rfl) fun w4 hA => ?_
    refine draw hA [true, true, true] [0, 1, 2, 3, 4, 5, 6, 7, 8, 9, 10, 11, 12] (by kernel_rfl) (by kernel_rfl) fun hA => ?_
    refine runS hA 6 ([.t 0] ++ List.replicate 8 (.k 0) ++ [.t 1, .t 2, .k 0, .t 3, .t 4, .i, .t 5, .x (.int .i64 ((b.bets[i]?.getD noBet).first)), .x (.int .i64 ((b.bets[i]?.getD noBet).second)), .x (.int .i64 ((b.bets[i]?.getD noBet).units))]) (xc (a := ⟨b1, off + i * 3, none⟩) ⟨hlb1, k0⟩ (xc (a := ⟨b1, off + i * 3 + 1, none⟩) ⟨hlb1, k1⟩ (xc (a := ⟨b1, off + i * 3 + 2, none⟩) ⟨hlb1, k2⟩ xn))) (oc (show (0 : Int) ≤ ((i : Int) : Int) ∧ ((i : Int) : Int) < (n : Int) by omega) on) (by kernel_rfl) fun w5 hA => ?_
    have hA0NO := hA
    refine latK hA0NO [6, 7, 8, 9, 10, 11, 12] (γ := Nat) (fun bNO10 => [(1, .pointer (some ⟨w.heap.size, 0, none⟩)), (2, .pointer (some ⟨w.heap.size + 1, 0, none⟩)), (3, .pointer (some ⟨w.heap.size + 2, 0, none⟩)), (4, .int .i64 (i : Int)), (6, .bool (okT (tilF b) (b.bets[i]?.getD noBet)))]) (fun bNO10 => [⟨w.heap.size, .cells #[.int .i64 b.kind, .int .i64 b.runners, .slice (some ⟨b1, off, none⟩) n c, .slice A2 m c2, .bool b.fav, .int .i64 b.car, .int .i64 b.dut, .int .i64 b.stp] 25 (0, 0)⟩, ⟨w.heap.size + 1, .cells #[.int .i64 0, .int .i64 0, .int .i64 0, .int .i64 0, .int .i64 0, .int .i64 0] 35 (0, 0)⟩, ⟨w.heap.size + 2, .cells #[.int .i64 (sumF allB (b.bets.take (i + 1)) * 100 + b.car), .int .i64 (sumF (notOn (tilF b)) (b.bets.take i) * 100), .int .i64 0, .int .i64 0, .int .i64 0, .int .i64 0] 35 (0, 0)⟩]) (fun bNO10 => []) (fun bNO10 _ => True) (fun hNO6_10_11 => ?_) ?_
    ·
      refine latS hA0NO [6, 7, 8, 9, 10] (γ := Nat) (fun bNO10 => [(1, .pointer (some ⟨w.heap.size, 0, none⟩)), (2, .pointer (some ⟨w.heap.size + 1, 0, none⟩)), (3, .pointer (some ⟨w.heap.size + 2, 0, none⟩)), (4, .int .i64 (i : Int)), (5, .pointer (some ⟨bNO10, 0, none⟩)), (28, .tuple #[.agg #[.int .i64 ((onP b (b.bets[i]?.getD noBet)).1), .int .i64 ((onP b (b.bets[i]?.getD noBet)).2)], .bool (okT (tilF b) (b.bets[i]?.getD noBet))]), (29, .agg #[.int .i64 b.kind, .int .i64 b.runners, .slice (some ⟨b1, off, none⟩) n c, .slice A2 m c2, .bool b.fav, .int .i64 b.car, .int .i64 b.dut, .int .i64 b.stp]), (30, .pointer (some ⟨w.heap.size, 2, none⟩)), (31, .slice (some ⟨b1, off, none⟩) n c), (32, .int .i64 (i : Int)), (33, .pointer (some ⟨b1, off + i * 3, none⟩)), (34, .agg #[.int .i64 ((b.bets[i]?.getD noBet).first), .int .i64 ((b.bets[i]?.getD noBet).second), .int .i64 ((b.bets[i]?.getD noBet).units)]), (35, .tuple #[.agg #[.int .i64 ((onP b (b.bets[i]?.getD noBet)).1), .int .i64 ((onP b (b.bets[i]?.getD noBet)).2)], .bool (okT (tilF b) (b.bets[i]?.getD noBet))]), (36, .agg #[.int .i64 ((onP b (b.bets[i]?.getD noBet)).1), .int .i64 ((onP b (b.bets[i]?.getD noBet)).2)]), (37, .bool (okT (tilF b) (b.bets[i]?.getD noBet)))]) (fun bNO10 => [⟨w.heap.size, .cells #[.int .i64 b.kind, .int .i64 b.runners, .slice (some ⟨b1, off, none⟩) n c, .slice A2 m c2, .bool b.fav, .int .i64 b.car, .int .i64 b.dut, .int .i64 b.stp] 25 (0, 0)⟩, ⟨w.heap.size + 1, .cells #[.int .i64 0, .int .i64 0, .int .i64 0, .int .i64 0, .int .i64 0, .int .i64 0] 35 (0, 0)⟩, ⟨w.heap.size + 2, .cells #[.int .i64 (sumF allB (b.bets.take (i + 1)) * 100 + b.car), .int .i64 (sumF (notOn (tilF b)) (b.bets.take i) * 100), .int .i64 0, .int .i64 0, .int .i64 0, .int .i64 0] 35 (0, 0)⟩, ⟨bNO10, .cells #[.int .i64 0, .int .i64 0] 57 (0, 0)⟩]) (fun bNO10 => []) (fun bNO10 _ => True) ?_ (fun hNO6_10 => ?_)
      · rintro bNO10 wl6 _ hA
        refine runS hA 2 [.h 11, .k 3, .k 3, .t 12] xn on (by kernel_rfl) fun w107 hA => ?_
        exact joinE hNO6_10_11 bNO10 trivial [0, 1, 2] hA rfl (by kernel_rfl) (by decide)
      refine latS hA0NO [10] (γ := Nat) (fun bNO10 => [(1, .pointer (some ⟨w.heap.size, 0, none⟩)), (2, .pointer (some ⟨w.heap.size + 1, 0, none⟩)), (3, .pointer (some ⟨w.heap.size + 2, 0, none⟩)), (4, .int .i64 (i : Int)), (5, .pointer (some ⟨bNO10, 0, none⟩)), (29, .agg #[.int .i64 b.kind, .int .i64 b.runners, .slice (some ⟨b1, off, none⟩) n c, .slice A2 m c2, .bool b.fav, .int .i64 b.car, .int .i64 b.dut, .int .i64 b.stp]), (30, .pointer (some ⟨w.heap.size, 2, none⟩)), (31, .slice (some ⟨b1, off, none⟩) n c), (32, .int .i64 (i : Int)), (33, .pointer (some ⟨b1, off + i * 3, none⟩)), (34, .agg #[.int .i64 ((b.bets[i]?.getD noBet).first), .int .i64 ((b.bets[i]?.getD noBet).second), .int .i64 ((b.bets[i]?.getD noBet).units)])]) (fun bNO10 => [⟨w.heap.size, .cells #[.int .i64 b.kind, .int .i64 b.runners, .slice (some ⟨b1, off, none⟩) n c, .slice A2 m c2, .bool b.fav, .int .i64 b.car, .int .i64 b.dut, .int .i64 b.stp] 25 (0, 0)⟩, ⟨w.heap.size + 1, .cells #[.int .i64 0, .int .i64 0, .int .i64 0, .int .i64 0, .int .i64 0, .int .i64 0] 35 (0, 0)⟩, ⟨w.heap.size + 2, .cells #[.int .i64 (sumF allB (b.bets.take (i + 1)) * 100 + b.car), .int .i64 (sumF (notOn (tilF b)) (b.bets.take i) * 100), .int .i64 0, .int .i64 0, .int .i64 0, .int .i64 0] 35 (0, 0)⟩, ⟨bNO10, .cells #[.int .i64 0, .int .i64 0] 57 (0, 0)⟩]) (fun bNO10 => []) (fun bNO10 _ => True) ?_ (fun hNO10 => ?_)
      · rintro bNO10 wl7 _ hA
        refine callB hA [] on (rOn_any wl7 B b (some ⟨b1, off, none⟩) n c A2 m c2 (b.bets[i]?.getD noBet) (h.below hA.below hB) (Nat.le_trans hB hA.size) V hxm) (by kernel_rfl) fun w108 hb108 hA => ?_
        refine runS hA 3 [.t 7, .t 8, .t 9] xn on (by kernel_rfl) fun w109 hA => ?_
        exact joinE hNO6_10 bNO10 trivial [0, 1, 2, 3] hA rfl (by kernel_rfl) (by decide)
      refine latS hA0NO [6, 7, 8, 9] (γ := Unit) (fun _ => [(1, .pointer (some ⟨w.heap.size, 0, none⟩)), (2, .pointer (some ⟨w.heap.size + 1, 0, none⟩)), (3, .pointer (some ⟨w.heap.size + 2, 0, none⟩)), (4, .int .i64 (i : Int)), (28, .tuple #[.agg #[.int .i64 ((onP b (b.bets[i]?.getD noBet)).1), .int .i64 ((onP b (b.bets[i]?.getD noBet)).2)], .bool (okT (tilF b) (b.bets[i]?.getD noBet))]), (29, .agg #[.int .i64 b.kind, .int .i64 b.runners, .slice (some ⟨b1, off, none⟩) n c, .slice A2 m c2, .bool b.fav, .int .i64 b.car, .int .i64 b.dut, .int .i64 b.stp]), (30, .pointer (some ⟨w.heap.size, 2, none⟩)), (31, .slice (some ⟨b1, off, none⟩) n c), (32, .int .i64 (i : Int)), (33, .pointer (some ⟨b1, off + i * 3, none⟩)), (34, .agg #[.int .i64 ((b.bets[i]?.getD noBet).first), .int .i64 ((b.bets[i]?.getD noBet).second), .int .i64 ((b.bets[i]?.getD noBet).units)]), (35, .tuple #[.agg #[.int .i64 ((onP b (b.bets[i]?.getD noBet)).1), .int .i64 ((onP b (b.bets[i]?.getD noBet)).2)], .bool (okT (tilF b) (b.bets[i]?.getD noBet))]), (36, .agg #[.int .i64 ((onP b (b.bets[i]?.getD noBet)).1), .int .i64 ((onP b (b.bets[i]?.getD noBet)).2)]), (37, .bool (okT (tilF b) (b.bets[i]?.getD noBet)))]) (fun _ => [⟨w.heap.size, .cells #[.int .i64 b.kind, .int .i64 b.runners, .slice (some ⟨b1, off, none⟩) n c, .slice A2 m c2, .bool b.fav, .int .i64 b.car, .int .i64 b.dut, .int .i64 b.stp] 25 (0, 0)⟩, ⟨w.heap.size + 1, .cells #[.int .i64 0, .int .i64 0, .int .i64 0, .int .i64 0, .int .i64 0, .int .i64 0] 35 (0, 0)⟩, ⟨w.heap.size + 2, .cells #[.int .i64 (sumF allB (b.bets.take (i + 1)) * 100 + b.car), .int .i64 (sumF (notOn (tilF b)) (b.bets.take i) * 100), .int .i64 0, .int .i64 0, .int .i64 0, .int .i64 0] 35 (0, 0)⟩]) (fun _ => []) (fun _ _ => True) ?_ (fun hNO6 => ?_)
      · rintro _ wl8 _ hA
        refine runS hA 1 [.h 10] xn on (by kernel_rfl) fun w109 hA => ?_
        exact joinE hNO6_10 wl8.heap.size trivial [0, 1, 2, 3] hA rfl (by kernel_rfl) (by decide)
      replace hA := hA0NO
      refine manyS hA 6 [10] (by kernel_rfl) ⟨fun hA => ?_, fun hA => ?_, trivial⟩
      ·
        refine callB hA [] on (rOn_any w5 B b (some ⟨b1, off, none⟩) n c A2 m c2 (b.bets[i]?.getD noBet) (h.below hA.below hB) (Nat.le_trans hB hA.size) V hxm) (by kernel_rfl) fun w9 hb9 hA => ?_
        refine runS hA 3 [.t 7, .t 8, .t 9] xn on (by kernel_rfl) fun w10 hA => ?_
        exact joinE hNO6 () trivial [0, 1, 2] hA rfl (by kernel_rfl) (by decide)
      ·
        refine runS hA 1 [] xn on (by kernel_rfl) fun w9 hA => ?_
        exact joinE hNO10 wr.heap.size trivial [0, 1, 2, 3] hA rfl (by kernel_rfl) (by decide)
    rintro bNO10 w58 _ hA
    refine runS hA 5 [.b true] xn on (by kernel_rfl) fun w59 hA => ?_
    have hq9 := Bool.eq_false_or_eq_true (okT (tilF b) (b.bets[i]?.getD noBet))
    rcases hq9 with ho | ho
    ·
      refine revals hA (rc 38 (show .bool (okT (tilF b) (b.bets[i]?.getD noBet)) = .bool true by rw [ho]) rn) (by kernel_rfl) fun hA => ?_
      refine runS hA 12 [] xn on (by kernel_rfl) fun w60 hA => ?_
      rw [if_neg (by unfold notOn; rw [ho]; decide), Int.add_zero] at ht2
      have hAk9 : At w w60 [⟨w.heap.size, .cells #[.int .i64 b.kind, .int .i64 b.runners, .slice (some ⟨b1, off, none⟩) n c, .slice A2 m c2, .bool b.fav, .int .i64 b.car, .int .i64 b.dut, .int .i64 b.stp] 25 (0, 0)⟩, ⟨w.heap.size + 1, .cells #[.int .i64 0, .int .i64 0, .int .i64 0, .int .i64 0, .int .i64 0, .int .i64 0] 35 (0, 0)⟩, ⟨w.heap.size + 2, .cells #[.int .i64 (sumF allB (b.bets.take (i + 1)) * 100 + b.car), .int .i64 (sumF (notOn (tilF b)) (b.bets.take (i + 1)) * 100), .int .i64 0, .int .i64 0, .int .i64 0, .int .i64 0] 35 (0, 0)⟩] [] w60.heap.size := by rw [ht2]; exact (hA.atK [⟨w.heap.size, .cells #[.int .i64 b.kind, .int .i64 b.runners, .slice (some ⟨b1, off, none⟩) n c, .slice A2 m c2, .bool b.fav, .int .i64 b.car, .int .i64 b.dut, .int .i64 b.stp] 25 (0, 0)⟩, ⟨w.heap.size + 1, .cells #[.int .i64 0, .int .i64 0, .int .i64 0, .int .i64 0, .int .i64 0, .int .i64 0] 35 (0, 0)⟩, ⟨w.heap.size + 2, .cells #[.int .i64 (sumF allB (b.bets.take (i + 1)) * 100 + b.car), .int .i64 (sumF (notOn (tilF b)) (b.bets.take i) * 100), .int .i64 0, .int .i64 0, .int .i64 0, .int .i64 0] 35 (0, 0)⟩] (by kernel_rfl)).resize
      refine reknow ⟨[⟨w.heap.size, .cells #[.int .i64 b.kind, .int .i64 b.runners, .slice (some ⟨b1, off, none⟩) n c, .slice A2 m c2, .bool b.fav, .int .i64 b.car, .int .i64 b.dut, .int .i64 b.stp] 25 (0, 0)⟩, ⟨w.heap.size + 1, .cells #[.int .i64 0, .int .i64 0, .int .i64 0, .int .i64 0, .int .i64 0, .int .i64 0] 35 (0, 0)⟩, ⟨w.heap.size + 2, .cells #[.int .i64 (sumF allB (b.bets.take (i + 1)) * 100 + b.car), .int .i64 (sumF (notOn (tilF b)) (b.bets.take (i + 1)) * 100), .int .i64 0, .int .i64 0, .int .i64 0, .int .i64 0] 35 (0, 0)⟩], w60.heap.size, [], [], [], [], []⟩ hAk9 (Nat.zero_le _) fun hA => ?_
      refine revals hA (rc 4 (wr64 (x := (i : Int) + 1) (y := ((i + 1 : Nat) : Int)) (by omega) (by omega)) rn) (by kernel_rfl) fun hA => ?_
      exact again hJ (n - (i + 1)) (i + 1) [true, true, true] hA (by omega) (by kernel_rfl) (⟨by omega, rfl⟩)
    ·
      refine revals hA (rc 38 (show .bool (okT (tilF b) (b.bets[i]?.getD noBet)) = .bool false by rw [ho]) rn) (by kernel_rfl) fun hA => ?_
      refine runS hA 4 [] xn on (by kernel_rfl) fun w60 hA => ?_
      rw [if_pos (by unfold notOn; rw [ho]; rfl)] at ht2
      refine draw hA [true, true, true] [0, 1, 2, 3, 4, 5, 6, 7, 8, 9, 10] (by kernel_rfl) (by kernel_rfl) fun hA => ?_
      refine runS hA 10 [.t 0, .t 1, .k 2, .t 2, .t 3, .k 0, .t 4, .t 5, .i, .t 6, .t 7, .x (.int .i64 ((b.bets[i]?.getD noBet).units)), .t 8, .t 9] (xc (a := ⟨b1, off + i * 3 + 2, none⟩) ⟨hlb1, k2⟩ xn) (oc (show (0 : Int) ≤ ((i : Int) : Int) ∧ ((i : Int) : Int) < (n : Int) by omega) on) (by kernel_rfl) fun w61 hA => ?_
      refine revals hA (rc 49 (show .int .i64 (IntKind.i64.wrap ((sumF (notOn (tilF b)) (b.bets.take i) * 100) + (IntKind.i64.wrap (100 * ((b.bets[i]?.getD noBet).units))))) = .int .i64 (sumF (notOn (tilF b)) (b.bets.take (i + 1)) * 100) by rw [ht2]; simp only [IntKind.wrap_i64]; congr 1; omega) rn) (by kernel_rfl) fun hA => ?_
      refine runS hA 11 [.t 10, .b false, .k 2] xn on (by kernel_rfl) fun w62 hA => ?_
      refine revals hA (rc 4 (wr64 (x := (i : Int) + 1) (y := ((i + 1 : Nat) : Int)) (by omega) (by omega)) rn) (by kernel_rfl) fun hA => ?_
      exact again hJ (n - (i + 1)) (i + 1) [true, true, true] hA (by omega) (by kernel_rfl) (⟨by omega, rfl⟩)
end Go.Proofs.YtbahiemjaomdcaaGreat

/- quinellaref03: Units, Share. -/
namespace Go.Proofs.YtbahiemjaomdcaaGreat
open Go.RowKit Go.Shelf

theorem uL_take (t : Till) (bs : List Bet) (s : Int × Int) {k : Nat} (h : k < bs.length) {x : Bet} (hx : x = bs[k]?.getD noBet) : uL t (bs.take (k + 1)) s = uL t (bs.take k) s + if okT t x = true ∧ spX t x = s then x.units else 0 := by
  subst hx
  rw [take_snoc (d := noBet) h]
  unfold uL
  rw [List.map_append, List.sum_append]
  simp
theorem onP_ok {b : Bk} {x : Bet} (h : okT (tilF b) x = true) : onP b x = spX (tilF b) x := if_pos h
/-- How many of the first winners are backed; the share. -/
def bkN' (b : Bk) (fs : List (List Int)) (i : Nat) : List (Int × Int) := ((winF b fs).take i).filter fun s => decide (uL (tilF b) b.bets s ≠ 0)
theorem bkN_step {b : Bk} {fs : List (List Int)} {i : Nat} (h : i < (winF b fs).length) : bkN' b fs (i + 1) = bkN' b fs i ++ if uL (tilF b) b.bets ((winF b fs)[i]?.getD (0, 0)) ≠ 0 then [(winF b fs)[i]?.getD (0, 0)] else [] := by
  unfold bkN'
  rw [take_snoc (d := (0, 0)) h, List.filter_append]
  congr 1
  by_cases h1 : uL (tilF b) b.bets ((winF b fs)[i]?.getD (0, 0)) ≠ 0
  · rw [if_pos h1, List.filter_cons_of_pos (by simpa using h1)]; rfl
  · rw [if_neg h1, List.filter_cons_of_neg (by simpa using h1)]; rfl
theorem bkN_le (b : Bk) (fs : List (List Int)) (i : Nat) : (bkN' b fs i).length ≤ i := Nat.le_trans (List.length_filter_le _ _) (List.length_take_le _ _)
theorem bkN_all {b : Bk} {fs : List (List Int)} {i : Nat} (h : (winF b fs).length ≤ i) : bkN' b fs i = bkd (tilF b) fs := by
  unfold bkN'
  rw [List.take_of_length_le h]
  rfl
def shR (b : Bk) (fs : List (List Int)) : Int := if bkd (tilF b) fs = [] then 0 else shF (tilF b) fs
/-- The reference's winners, told as a slice. -/
theorem winnersOfS_any (w : World) (B : Nat) (b : Bk) (A : Option Addr) (n c : Nat) (A2 : Option Addr) (m c2 : Nat) (A3 : Option Addr) (nf cf : Nat) (fs : List (List Int)) (WN : Nat) (hf : FinAt w B A3 nf fs) (hB : B ≤ w.heap.size) (V : ValidB b) (hfin : isFinF b fs = true) (hl : (winF b fs).length = WN) : Calls Tryz.prog 51 #[bkV b A n c A2 m c2, .slice A3 nf cf] w fun e w' => ∃ A9 c9, e = .returned (.slice A9 WN c9) ∧ Below w.heap.size w w' ∧ w'.ownsRow w.heap.size 57 2 (.slice A9 WN c9) WN (encW (winF b fs)) := by
  subst hl
  refine (winnersOf_any w B b A n c A2 m c2 A3 nf cf fs hf hB V (fin_ok V hfin)).mono ?_
  rw [win_eq V hfin]
  rintro e w' ⟨v, rfl, hb, ho⟩
  obtain ⟨A9, c9, rfl⟩ := own_slice ho
  exact ⟨A9, c9, rfl, hb, ho⟩
set_option maxHeartbeats 1000000 in
set_option maxRecDepth 20000 in
theorem rUnits_any (w : World) (B : Nat) (b : Bk) (A : Option Addr) (n c : Nat) (A2 : Option Addr) (m c2 : Nat) (s : Int × Int) (h : BkAt w B b A n c A2 m c2) (hB : B ≤ w.heap.size) (V : ValidB b) : Calls Tryz.prog 25 #[bkV b A n c A2 m c2, .agg #[.int .i64 s.1, .int .i64 s.2]] w fun e w' => e = .returned (.int .i64 (uL (tilF b) b.bets s)) ∧ Below w.heap.size w w' := by
  have hbl := h.bets.1
  have hv2 := V.len
  refine enter 41 Tryz.func25 (by kernel_rfl) fun hA => ?_
  refine runS hA 19 [] xn on (by kernel_rfl) fun w1 hA => ?_
  refine revals hA (rc 5 (show .int .i64 0 = .int .i64 (uL (tilF b) (b.bets.take 0) s) by rw [List.take_zero]; rfl) rn) (by kernel_rfl) fun hA => ?_
  refine loop (γ := Nat) (fun i => [(2, .pointer (some ⟨w.heap.size, 0, none⟩)), (3, .pointer (some ⟨w.heap.size + 1, 0, none⟩)), (4, .int .i64 0), (5, .int .i64 (uL (tilF b) (b.bets.take i) s)), (6, .int .i64 (i : Int))]) (fun i => [⟨w.heap.size, .cells #[.int .i64 b.kind, .int .i64 b.runners, .slice A n c, .slice A2 m c2, .bool b.fav, .int .i64 b.car, .int .i64 b.dut, .int .i64 b.stp] 25 (0, 0)⟩, ⟨w.heap.size + 1, .cells #[.int .i64 s.1, .int .i64 s.2] 57 (0, 0)⟩]) (fun _ => []) (fun g i wr => i ≤ n ∧ g = n - i) n 0 [true, true] hA (by kernel_rfl) (⟨Nat.zero_le _, rfl⟩) ?_
  rintro _ i wr ⟨hi, rfl⟩ J hJ hA
  have hub := uL_bound (tilF b) s (b.bets.take (i + 1)) (fun x hx => units_ok V x (List.mem_of_mem_take hx))
  have htl : (b.bets.take (i + 1)).length ≤ 100 := by rw [List.length_take]; omega
  by_cases hlt : i < n
  case neg =>
    refine runS hA 13 [.k 0, .b false] xn (oc (dec_f (show ¬ (((i : Int) : Int) < (n : Int)) by omega)) on) (by kernel_rfl) fun w2 hA => ?_
    refine leave hA (by kernel_rfl) fun hA => ?_
    have hib : b.bets.take i = b.bets := List.take_of_length_le (by omega)
    refine runS hA 9 [] xn on (by kernel_rfl) fun w3 hA => ?_
    exact ret (v := .int .i64 (uL (tilF b) (b.bets.take i) s)) hA [] (by kernel_rfl) ⟨by rw [hib], hA.below⟩
  case pos =>
    have hq9 := h.bets.at hlt
    obtain ⟨b1, off, rfl, hb1, k0, k1, k2⟩ := hq9
    have hlb1 : b1 < w.heap.size := Nat.lt_of_lt_of_le hb1 hB
    have hxm : (b.bets[i]?.getD noBet) ∈ b.bets := get_mem (by omega)
    have ht := uL_take (tilF b) b.bets s (k := i) (x := (b.bets[i]?.getD noBet)) (by omega) rfl
    refine runS hA 16 [.k 0, .b true] xn (oc (dec_t (show (((i : Int) : Int) < (n : Int)) by omega)) on) (by kernel_rfl) fun w2 hA => ?_
    refine draw hA [true, true] [0, 1, 2, 3, 4, 5, 6, 7, 8, 9, 10, 11, 12] (by kernel_rfl) (by kernel_rfl) fun hA => ?_
    refine runS hA 6 ([.t 0] ++ List.replicate 8 (.k 0) ++ [.t 1, .t 2, .k 0, .t 3, .t 4, .i, .t 5, .x (.int .i64 ((b.bets[i]?.getD noBet).first)), .x (.int .i64 ((b.bets[i]?.getD noBet).second)), .x (.int .i64 ((b.bets[i]?.getD noBet).units))]) (xc (a := ⟨b1, off + i * 3, none⟩) ⟨hlb1, k0⟩ (xc (a := ⟨b1, off + i * 3 + 1, none⟩) ⟨hlb1, k1⟩ (xc (a := ⟨b1, off + i * 3 + 2, none⟩) ⟨hlb1, k2⟩ xn))) (oc (show (0 : Int) ≤ ((i : Int) : Int) ∧ ((i : Int) : Int) < (n : Int) by omega) on) (by kernel_rfl) fun w3 hA => ?_
    have hA0UO := hA
    refine latK hA0UO [6, 7, 8, 9, 10, 11, 12] (γ := Nat) (fun bUO10 => [(2, .pointer (some ⟨w.heap.size, 0, none⟩)), (3, .pointer (some ⟨w.heap.size + 1, 0, none⟩)), (4, .int .i64 0), (5, .int .i64 (uL (tilF b) (b.bets.take i) s)), (6, .int .i64 (i : Int)), (7, .pointer (some ⟨bUO10, 0, none⟩)), (8, .bool (okT (tilF b) (b.bets[i]?.getD noBet)))]) (fun bUO10 => [⟨w.heap.size, .cells #[.int .i64 b.kind, .int .i64 b.runners, .slice (some ⟨b1, off, none⟩) n c, .slice A2 m c2, .bool b.fav, .int .i64 b.car, .int .i64 b.dut, .int .i64 b.stp] 25 (0, 0)⟩, ⟨w.heap.size + 1, .cells #[.int .i64 s.1, .int .i64 s.2] 57 (0, 0)⟩, ⟨bUO10, .cells #[.int .i64 ((onP b (b.bets[i]?.getD noBet)).1), .int .i64 ((onP b (b.bets[i]?.getD noBet)).2)] 57 (0, 0)⟩]) (fun bUO10 => []) (fun bUO10 _ => True) (fun hUO6_10_11 => ?_) ?_
    ·
      refine latS hA0UO [6, 7, 8, 9, 10] (γ := Nat) (fun bUO10 => [(2, .pointer (some ⟨w.heap.size, 0, none⟩)), (3, .pointer (some ⟨w.heap.size + 1, 0, none⟩)), (4, .int .i64 0), (5, .int .i64 (uL (tilF b) (b.bets.take i) s)), (6, .int .i64 (i : Int)), (7, .pointer (some ⟨bUO10, 0, none⟩)), (16, .tuple #[.agg #[.int .i64 ((onP b (b.bets[i]?.getD noBet)).1), .int .i64 ((onP b (b.bets[i]?.getD noBet)).2)], .bool (okT (tilF b) (b.bets[i]?.getD noBet))]), (17, .agg #[.int .i64 b.kind, .int .i64 b.runners, .slice (some ⟨b1, off, none⟩) n c, .slice A2 m c2, .bool b.fav, .int .i64 b.car, .int .i64 b.dut, .int .i64 b.stp]), (18, .pointer (some ⟨w.heap.size, 2, none⟩)), (19, .slice (some ⟨b1, off, none⟩) n c), (20, .int .i64 (i : Int)), (21, .pointer (some ⟨b1, off + i * 3, none⟩)), (22, .agg #[.int .i64 ((b.bets[i]?.getD noBet).first), .int .i64 ((b.bets[i]?.getD noBet).second), .int .i64 ((b.bets[i]?.getD noBet).units)]), (23, .tuple #[.agg #[.int .i64 ((onP b (b.bets[i]?.getD noBet)).1), .int .i64 ((onP b (b.bets[i]?.getD noBet)).2)], .bool (okT (tilF b) (b.bets[i]?.getD noBet))]), (24, .agg #[.int .i64 ((onP b (b.bets[i]?.getD noBet)).1), .int .i64 ((onP b (b.bets[i]?.getD noBet)).2)]), (25, .bool (okT (tilF b) (b.bets[i]?.getD noBet)))]) (fun bUO10 => [⟨w.heap.size, .cells #[.int .i64 b.kind, .int .i64 b.runners, .slice (some ⟨b1, off, none⟩) n c, .slice A2 m c2, .bool b.fav, .int .i64 b.car, .int .i64 b.dut, .int .i64 b.stp] 25 (0, 0)⟩, ⟨w.heap.size + 1, .cells #[.int .i64 s.1, .int .i64 s.2] 57 (0, 0)⟩, ⟨bUO10, .cells #[.int .i64 0, .int .i64 0] 57 (0, 0)⟩]) (fun bUO10 => []) (fun bUO10 _ => True) ?_ (fun hUO6_10 => ?_)
      · rintro bUO10 wl4 _ hA
        refine runS hA 2 [.h 11, .k 2, .k 2, .t 12] xn on (by kernel_rfl) fun w105 hA => ?_
        exact joinE hUO6_10_11 bUO10 trivial [0, 1, 2] hA rfl (by kernel_rfl) (by decide)
      refine latS hA0UO [10] (γ := Nat) (fun bUO10 => [(2, .pointer (some ⟨w.heap.size, 0, none⟩)), (3, .pointer (some ⟨w.heap.size + 1, 0, none⟩)), (4, .int .i64 0), (5, .int .i64 (uL (tilF b) (b.bets.take i) s)), (6, .int .i64 (i : Int)), (7, .pointer (some ⟨bUO10, 0, none⟩)), (17, .agg #[.int .i64 b.kind, .int .i64 b.runners, .slice (some ⟨b1, off, none⟩) n c, .slice A2 m c2, .bool b.fav, .int .i64 b.car, .int .i64 b.dut, .int .i64 b.stp]), (18, .pointer (some ⟨w.heap.size, 2, none⟩)), (19, .slice (some ⟨b1, off, none⟩) n c), (20, .int .i64 (i : Int)), (21, .pointer (some ⟨b1, off + i * 3, none⟩)), (22, .agg #[.int .i64 ((b.bets[i]?.getD noBet).first), .int .i64 ((b.bets[i]?.getD noBet).second), .int .i64 ((b.bets[i]?.getD noBet).units)])]) (fun bUO10 => [⟨w.heap.size, .cells #[.int .i64 b.kind, .int .i64 b.runners, .slice (some ⟨b1, off, none⟩) n c, .slice A2 m c2, .bool b.fav, .int .i64 b.car, .int .i64 b.dut, .int .i64 b.stp] 25 (0, 0)⟩, ⟨w.heap.size + 1, .cells #[.int .i64 s.1, .int .i64 s.2] 57 (0, 0)⟩, ⟨bUO10, .cells #[.int .i64 0, .int .i64 0] 57 (0, 0)⟩]) (fun bUO10 => []) (fun bUO10 _ => True) ?_ (fun hUO10 => ?_)
      · rintro bUO10 wl5 _ hA
        refine callB hA [] on (rOn_any wl5 B b (some ⟨b1, off, none⟩) n c A2 m c2 (b.bets[i]?.getD noBet) (h.below hA.below hB) (Nat.le_trans hB hA.size) V hxm) (by kernel_rfl) fun w106 hb106 hA => ?_
        refine runS hA 3 [.t 7, .t 8, .t 9] xn on (by kernel_rfl) fun w107 hA => ?_
        exact joinE hUO6_10 bUO10 trivial [0, 1, 2] hA rfl (by kernel_rfl) (by decide)
      refine latS hA0UO [6, 7, 8, 9] (γ := Unit) (fun _ => [(2, .pointer (some ⟨w.heap.size, 0, none⟩)), (3, .pointer (some ⟨w.heap.size + 1, 0, none⟩)), (4, .int .i64 0), (5, .int .i64 (uL (tilF b) (b.bets.take i) s)), (6, .int .i64 (i : Int)), (16, .tuple #[.agg #[.int .i64 ((onP b (b.bets[i]?.getD noBet)).1), .int .i64 ((onP b (b.bets[i]?.getD noBet)).2)], .bool (okT (tilF b) (b.bets[i]?.getD noBet))]), (17, .agg #[.int .i64 b.kind, .int .i64 b.runners, .slice (some ⟨b1, off, none⟩) n c, .slice A2 m c2, .bool b.fav, .int .i64 b.car, .int .i64 b.dut, .int .i64 b.stp]), (18, .pointer (some ⟨w.heap.size, 2, none⟩)), (19, .slice (some ⟨b1, off, none⟩) n c), (20, .int .i64 (i : Int)), (21, .pointer (some ⟨b1, off + i * 3, none⟩)), (22, .agg #[.int .i64 ((b.bets[i]?.getD noBet).first), .int .i64 ((b.bets[i]?.getD noBet).second), .int .i64 ((b.bets[i]?.getD noBet).units)]), (23, .tuple #[.agg #[.int .i64 ((onP b (b.bets[i]?.getD noBet)).1), .int .i64 ((onP b (b.bets[i]?.getD noBet)).2)], .bool (okT (tilF b) (b.bets[i]?.getD noBet))]), (24, .agg #[.int .i64 ((onP b (b.bets[i]?.getD noBet)).1), .int .i64 ((onP b (b.bets[i]?.getD noBet)).2)]), (25, .bool (okT (tilF b) (b.bets[i]?.getD noBet)))]) (fun _ => [⟨w.heap.size, .cells #[.int .i64 b.kind, .int .i64 b.runners, .slice (some ⟨b1, off, none⟩) n c, .slice A2 m c2, .bool b.fav, .int .i64 b.car, .int .i64 b.dut, .int .i64 b.stp] 25 (0, 0)⟩, ⟨w.heap.size + 1, .cells #[.int .i64 s.1, .int .i64 s.2] 57 (0, 0)⟩]) (fun _ => []) (fun _ _ => True) ?_ (fun hUO6 => ?_)
      · rintro _ wl6 _ hA
        refine runS hA 1 [.h 10] xn on (by kernel_rfl) fun w107 hA => ?_
        exact joinE hUO6_10 wl6.heap.size trivial [0, 1, 2] hA rfl (by kernel_rfl) (by decide)
      replace hA := hA0UO
      refine manyS hA 6 [10] (by kernel_rfl) ⟨fun hA => ?_, fun hA => ?_, trivial⟩
      ·
        refine callB hA [] on (rOn_any w3 B b (some ⟨b1, off, none⟩) n c A2 m c2 (b.bets[i]?.getD noBet) (h.below hA.below hB) (Nat.le_trans hB hA.size) V hxm) (by kernel_rfl) fun w7 hb7 hA => ?_
        refine runS hA 3 [.t 7, .t 8, .t 9] xn on (by kernel_rfl) fun w8 hA => ?_
        exact joinE hUO6 () trivial [0, 1] hA rfl (by kernel_rfl) (by decide)
      ·
        refine runS hA 1 [] xn on (by kernel_rfl) fun w7 hA => ?_
        exact joinE hUO10 wr.heap.size trivial [0, 1, 2] hA rfl (by kernel_rfl) (by decide)
    rintro bUO10 w56 _ hA
    refine runS hA 5 [.b true] xn on (by kernel_rfl) fun w57 hA => ?_
    have hq9 := Bool.eq_false_or_eq_true (okT (tilF b) (b.bets[i]?.getD noBet))
    rcases hq9 with ho | ho
    ·
      refine revals hA (rc 26 (show .bool (okT (tilF b) (b.bets[i]?.getD noBet)) = .bool true by rw [ho]) rn) (by kernel_rfl) fun hA => ?_
      refine runS hA 3 [.g true, .k 2, .k 2, .g true, .k 1, .k 1] xn (oc (rfl : Value.bool true = .bool true) (oc (rfl : Value.bool true = .bool true) on)) (by kernel_rfl) fun w58 hA => ?_
      refine opv (v := .bool (decide (onP b (b.bets[i]?.getD noBet) = s))) hA [] on (s := cmpSem .eql 57 (.tmp 28) (.tmp 29) (.agg #[.int .i64 ((onP b (b.bets[i]?.getD noBet)).1), .int .i64 ((onP b (b.bets[i]?.getD noBet)).2)]) (.agg #[.int .i64 s.1, .int .i64 s.2])) (by kernel_rfl) (cmp_flat (n := 2) false (by kernel_rfl) _ (by kernel_rfl) (fun i hi => by match i, hi with | 0, _ => exact ⟨_, _, _, rfl, rfl⟩ | 1, _ => exact ⟨_, _, _, rfl, rfl⟩) (onP b (b.bets[i]?.getD noBet) = s) (by generalize onP b (b.bets[i]?.getD noBet) = u; obtain ⟨u1, u2⟩ := u; obtain ⟨v1, v2⟩ := s; simp) (by kernel_rfl)) fun hA => ?_
      by_cases hs : onP b (b.bets[i]?.getD noBet) = s
      case pos =>
        refine revals hA (rc 30 (show .bool (decide (onP b (b.bets[i]?.getD noBet) = s)) = .bool true by rw [decide_eq_true hs]) rn) (by kernel_rfl) fun hA => ?_
        refine runS hA 13 [.k 0, .i, .x (.int .i64 ((b.bets[i]?.getD noBet).units))] (xc (a := ⟨b1, off + i * 3 + 2, none⟩) ⟨hlb1, k2⟩ xn) (oc (show (0 : Int) ≤ ((i : Int) : Int) ∧ ((i : Int) : Int) < (n : Int) by omega) on) (by kernel_rfl) fun w59 hA => ?_
        rw [if_pos ⟨ho, by rw [← onP_ok ho]; exact hs⟩] at ht
        refine revals hA (rc 39 (wr64 (by rw [← ht]; omega) ht.symm) rn) (by kernel_rfl) fun hA => ?_
        refine runS hA 9 [] xn on (by kernel_rfl) fun w60 hA => ?_
        refine revals hA (rc 5 (show .int .i64 (uL (tilF b) (b.bets.take (i + 1)) s) = .int .i64 (uL (tilF b) (b.bets.take (i + 1)) s) by rfl) (rc 6 (wr64 (x := (i : Int) + 1) (y := ((i + 1 : Nat) : Int)) (by omega) (by omega)) rn)) (by kernel_rfl) fun hA => ?_
        exact again hJ (n - (i + 1)) (i + 1) [true, true, false] hA (by omega) (by kernel_rfl) (⟨by omega, rfl⟩)
      case neg =>
        refine revals hA (rc 30 (show .bool (decide (onP b (b.bets[i]?.getD noBet) = s)) = .bool false by rw [decide_eq_false hs]) rn) (by kernel_rfl) fun hA => ?_
        refine runS hA 12 [] xn on (by kernel_rfl) fun w59 hA => ?_
        rw [if_neg (fun h9 => hs (by rw [onP_ok ho]; exact h9.2)), Int.add_zero] at ht
        refine revals hA (rc 5 (show .int .i64 (uL (tilF b) (b.bets.take i) s) = .int .i64 (uL (tilF b) (b.bets.take (i + 1)) s) by rw [ht]) (rc 6 (wr64 (x := (i : Int) + 1) (y := ((i + 1 : Nat) : Int)) (by omega) (by omega)) rn)) (by kernel_rfl) fun hA => ?_
        exact again hJ (n - (i + 1)) (i + 1) [true, true, false] hA (by omega) (by kernel_rfl) (⟨by omega, rfl⟩)
    ·
      refine revals hA (rc 26 (show .bool (okT (tilF b) (b.bets[i]?.getD noBet)) = .bool false by rw [ho]) rn) (by kernel_rfl) fun hA => ?_
      refine runS hA 16 [.g false, .g false, .g false] xn (oc (rfl : Value.bool false = .bool false) (oc (rfl : Value.bool false = .bool false) (oc (rfl : Value.bool false = .bool false) on))) (by kernel_rfl) fun w58 hA => ?_
      rw [if_neg (fun h9 => by rw [ho] at h9; exact absurd h9.1 (by decide)), Int.add_zero] at ht
      refine revals hA (rc 5 (show .int .i64 (uL (tilF b) (b.bets.take i) s) = .int .i64 (uL (tilF b) (b.bets.take (i + 1)) s) by rw [ht]) (rc 6 (wr64 (x := (i : Int) + 1) (y := ((i + 1 : Nat) : Int)) (by omega) (by omega)) rn)) (by kernel_rfl) fun hA => ?_
      exact again hJ (n - (i + 1)) (i + 1) [true, true, false] hA (by omega) (by kernel_rfl) (⟨by omega, rfl⟩)
set_option maxHeartbeats 1000000 in
set_option maxRecDepth 20000 in
theorem rShare_any (w : World) (B : Nat) (b : Bk) (A : Option Addr) (n c : Nat) (A2 : Option Addr) (m c2 : Nat) (A3 : Option Addr) (nf cf : Nat) (fs : List (List Int)) (h : BkAt w B b A n c A2 m c2) (hf : FinAt w B A3 nf fs) (hB : B ≤ w.heap.size) (V : ValidB b) (hfin : isFinF b fs = true) : Calls Tryz.prog 24 #[bkV b A n c A2 m c2, .slice A3 nf cf] w fun e w' => e = .returned (.int .i64 (shR b fs)) ∧ Below w.heap.size w w' := by
  have hnf := (net_facts V)
  have hwf := (fin_ok V hfin).ws
  have hq9 : ∃ WN, WN = (winF b fs).length := ⟨_, rfl⟩
  obtain ⟨WN, hWN⟩ := hq9
  refine enter 33 Tryz.func24 (by kernel_rfl) fun hA => ?_
  refine runS hA 10 (List.replicate 8 (.k 0)) xn on (by kernel_rfl) fun w1 hA => ?_
  have hApw := hA.atK [⟨w.heap.size, .cells #[.int .i64 b.kind, .int .i64 b.runners, .slice A n c, .slice A2 m c2, .bool b.fav, .int .i64 b.car, .int .i64 b.dut, .int .i64 b.stp] 25 (0, 0)⟩] (by kernel_rfl)
  refine call hA [] on (winnersOfS_any w1 B b A n c A2 m c2 A3 nf cf fs WN (hf.below hA.below hB) (Nat.le_trans hB hA.size) V hfin hWN.symm) (by kernel_rfl) (by rintro e v ⟨Aw, cw, rfl, hbw, how⟩; exact hbw) ?_
  rintro e w2 ⟨Aw, cw, rfl, hbw, how⟩
  refine ⟨_, rfl, fun hA => ?_⟩
  have hq9 := At.own hApw hbw how
  obtain ⟨ob8w, hrw, hA2w⟩ := hq9
  have hRw := row_at hrw (by omega) _ (fun kb hk => hA2w.rok kb (List.mem_append_left _ hk))
  refine reknow ⟨[⟨w.heap.size, .cells #[.int .i64 b.kind, .int .i64 b.runners, .slice A n c, .slice A2 m c2, .bool b.fav, .int .i64 b.car, .int .i64 b.dut, .int .i64 b.stp] 25 (0, 0)⟩], w2.heap.size, [], [], [], [], []⟩ hA2w (Nat.zero_le _) fun hA => ?_
  have hx1 : BkAt w2 w2.heap.size b A n c A2 m c2 := (h.below hA.below hB).more (Nat.le_trans hB hA.size)
  have hK0 := hA.atK [⟨w.heap.size, .cells #[.int .i64 b.kind, .int .i64 b.runners, .slice A n c, .slice A2 m c2, .bool b.fav, .int .i64 b.car, .int .i64 b.dut, .int .i64 b.stp] 25 (0, 0)⟩] (by kernel_rfl)
  have hobb := hK0.ok ⟨w.heap.size, .cells #[.int .i64 b.kind, .int .i64 b.runners, .slice A n c, .slice A2 m c2, .bool b.fav, .int .i64 b.car, .int .i64 b.dut, .int .i64 b.stp] 25 (0, 0)⟩ (List.mem_of_getElem? (i := 0) (by kernel_rfl))
  have hcb0 := cell_lt (cell_of_obj (a := ⟨w.heap.size, 0, none⟩) hobb rfl rfl)
  have hcb1 := cell_lt (cell_of_obj (a := ⟨w.heap.size, 1, none⟩) hobb rfl rfl)
  have hcb2 := cell_lt (cell_of_obj (a := ⟨w.heap.size, 2, none⟩) hobb rfl rfl)
  have hcb3 := cell_lt (cell_of_obj (a := ⟨w.heap.size, 3, none⟩) hobb rfl rfl)
  have hcb4 := cell_lt (cell_of_obj (a := ⟨w.heap.size, 4, none⟩) hobb rfl rfl)
  have hcb5 := cell_lt (cell_of_obj (a := ⟨w.heap.size, 5, none⟩) hobb rfl rfl)
  have hcb6 := cell_lt (cell_of_obj (a := ⟨w.heap.size, 6, none⟩) hobb rfl rfl)
  have hcb7 := cell_lt (cell_of_obj (a := ⟨w.heap.size, 7, none⟩) hobb rfl rfl)
  have hWb := hA.below
  have hWs := hA.size
  refine rebase hA w2 (by kernel_rfl) (At.start _) fun hA => ?_
  refine runS hA 15 [] xn on (by kernel_rfl) fun w3 hA => ?_
  refine loop (γ := Nat) (fun i => [(2, .pointer (some ⟨w.heap.size, 0, none⟩)), (4, .int .i64 0), (5, .slice Aw WN cw), (6, .int .i64 ((bkN' b fs i).length : Int)), (7, .int .i64 (i : Int))]) (fun i => []) (fun _ => []) (fun g i wr => i ≤ WN ∧ g = WN - i) WN 0 [] hA (by kernel_rfl) (⟨Nat.zero_le _, rfl⟩) ?_
  rintro _ i wr ⟨hi, rfl⟩ J hJ hA
  have hbn := bkN_le b fs i
  by_cases hlt : i < WN
  case pos =>
    have hst := bkN_step (b := b) (fs := fs) (i := i) (by omega)
    have hub := uL_bound (tilF b) ((winF b fs)[i]?.getD (0, 0)) b.bets (units_ok V)
    have hq9 := hRw.2.2 (by omega)
    obtain ⟨bw, ow, rfl, hbw1, hcw⟩ := hq9
    have hq9 := encW_get (winF b fs) i (by omega)
    obtain ⟨ge0, ge1⟩ := hq9
    have e0 : bw < w2.heap.size ∧ w2.cell? ⟨bw, ow + i * 2, none⟩ = some (.int .i64 ((winF b fs)[i]?.getD (0, 0)).1) := ⟨hbw1, by have := hcw _ _ ge0; exact this⟩
    have e1 : bw < w2.heap.size ∧ w2.cell? ⟨bw, ow + i * 2 + 1, none⟩ = some (.int .i64 ((winF b fs)[i]?.getD (0, 0)).2) := ⟨hbw1, by have := hcw _ _ ge1; exact this⟩
    refine runS hA 15 [.b true] xn (oc (dec_t (show (((i : Int) : Int) < (WN : Int)) by omega)) on) (by kernel_rfl) fun w4 hA => ?_
    refine draw hA [] [0, 1, 2, 3, 4, 5, 6] (by kernel_rfl) (by kernel_rfl) fun hA => ?_
    refine runS hA 5 [.t 0, .x (.int .i64 b.kind), .x (.int .i64 b.runners), .x (.slice A n c), .x (.slice A2 m c2), .x (.bool b.fav), .x (.int .i64 b.car), .x (.int .i64 b.dut), .x (.int .i64 b.stp), .t 1, .t 2, .t 3, .i, .t 4, .x (.int .i64 (((winF b fs)[i]?.getD (0, 0)).1)), .x (.int .i64 (((winF b fs)[i]?.getD (0, 0)).2))] (xc (a := ⟨w.heap.size, 0, none⟩) hcb0 (xc (a := ⟨w.heap.size, 1, none⟩) hcb1 (xc (a := ⟨w.heap.size, 2, none⟩) hcb2 (xc (a := ⟨w.heap.size, 3, none⟩) hcb3 (xc (a := ⟨w.heap.size, 4, none⟩) hcb4 (xc (a := ⟨w.heap.size, 5, none⟩) hcb5 (xc (a := ⟨w.heap.size, 6, none⟩) hcb6 (xc (a := ⟨w.heap.size, 7, none⟩) hcb7 (xc (a := ⟨bw, ow + i * 2, none⟩) e0 (xc (a := ⟨bw, ow + i * 2 + 1, none⟩) e1 xn)))))))))) (oc (show (0 : Int) ≤ ((i : Int) : Int) ∧ ((i : Int) : Int) < (WN : Int) by omega) on) (by kernel_rfl) fun w5 hA => ?_
    refine callB hA [] on (rUnits_any w5 w2.heap.size b A n c A2 m c2 ((winF b fs)[i]?.getD (0, 0)) (hx1.below hA.below (Nat.le_refl _)) hA.size V) (by kernel_rfl) fun w6 hb6 hA => ?_
    by_cases hu : uL (tilF b) b.bets ((winF b fs)[i]?.getD (0, 0)) > 0
    case pos =>
      refine runS hA 16 [.t 6, .b true, .b true] xn (oc (dec_t hu) on) (by kernel_rfl) fun w7 hA => ?_
      rw [if_pos (by omega)] at hst
      have hle : (bkN' b fs (i + 1)).length = (bkN' b fs i).length + 1 := by rw [hst, List.length_append]; rfl
      refine revals hA (rc 6 (wr64 (x := ((bkN' b fs i).length : Int) + 1) (y := ((bkN' b fs (i + 1)).length : Int)) (by omega) (by omega)) (rc 7 (wr64 (x := (i : Int) + 1) (y := ((i + 1 : Nat) : Int)) (by omega) (by omega)) rn)) (by kernel_rfl) fun hA => ?_
      exact again hJ (WN - (i + 1)) (i + 1) [] hA (by omega) (by kernel_rfl) (⟨by omega, rfl⟩)
    case neg =>
      refine runS hA 12 [.t 6, .b true, .b false] xn (oc (dec_f hu) on) (by kernel_rfl) fun w7 hA => ?_
      rw [if_neg (by omega), List.append_nil] at hst
      refine revals hA (rc 6 (show .int .i64 ((bkN' b fs i).length : Int) = .int .i64 ((bkN' b fs (i + 1)).length : Int) by rw [hst]) (rc 7 (wr64 (x := (i : Int) + 1) (y := ((i + 1 : Nat) : Int)) (by omega) (by omega)) rn)) (by kernel_rfl) fun hA => ?_
      exact again hJ (WN - (i + 1)) (i + 1) [] hA (by omega) (by kernel_rfl) (⟨by omega, rfl⟩)
  case neg =>
    refine runS hA 12 [.b false] xn (oc (dec_f (show ¬ (((i : Int) : Int) < (WN : Int)) by omega)) on) (by kernel_rfl) fun w4 hA => ?_
    refine leave hA (by kernel_rfl) fun hA => ?_
    have hba := bkN_all (b := b) (fs := fs) (i := i) (by omega)
    have hnd : (bkd (tilF b) fs).length ≤ 1000 := by rw [← hba]; omega
    refine revals hA (rc 6 (show .int .i64 ((bkN' b fs i).length : Int) = .int .i64 ((bkd (tilF b) fs).length : Int) by rw [hba]) rn) (by kernel_rfl) fun hA => ?_
    by_cases hb : bkd (tilF b) fs = []
    case pos =>
      have hz : (bkd (tilF b) fs).length = 0 := by rw [hb]; rfl
      refine runS hA 17 [.b true] xn (oc (eq_t (a := ((bkd (tilF b) fs).length : Int)) (b := 0) (by omega)) on) (by kernel_rfl) fun w5 hA => ?_
      refine back hA (by kernel_rfl) (At.plain (hWb.trans (hA.below.mono hWs))) fun hA => ?_
      exact ret (v := .int .i64 0) hA [] (by kernel_rfl) ⟨by unfold shR; rw [if_pos hb], hA.below⟩
    case neg =>
      have hz : 0 < (bkd (tilF b) fs).length := List.length_pos_iff.2 hb
      refine runS hA 15 [.b false, .x (.int .i64 b.kind), .x (.int .i64 b.runners), .x (.slice A n c), .x (.slice A2 m c2), .x (.bool b.fav), .x (.int .i64 b.car), .x (.int .i64 b.dut), .x (.int .i64 b.stp)] (xc (a := ⟨w.heap.size, 0, none⟩) hcb0 (xc (a := ⟨w.heap.size, 1, none⟩) hcb1 (xc (a := ⟨w.heap.size, 2, none⟩) hcb2 (xc (a := ⟨w.heap.size, 3, none⟩) hcb3 (xc (a := ⟨w.heap.size, 4, none⟩) hcb4 (xc (a := ⟨w.heap.size, 5, none⟩) hcb5 (xc (a := ⟨w.heap.size, 6, none⟩) hcb6 (xc (a := ⟨w.heap.size, 7, none⟩) hcb7 xn)))))))) (oc (eq_f (a := ((bkd (tilF b) fs).length : Int)) (b := 0) (by omega)) on) (by kernel_rfl) fun w5 hA => ?_
      refine callB hA [] on (rNet_any w5 w2.heap.size b A n c A2 m c2 (hx1.below hA.below (Nat.le_refl _)) hA.size V) (by kernel_rfl) fun w6 hb6 hA => ?_
      refine runS hA 3 [.z] xn (oc (show ((bkd (tilF b) fs).length : Int) ≠ (0 : Int) by omega) on) (by kernel_rfl) fun w7 hA => ?_
      have hq := tdiv_bound (x := netF (tilF b).a) (y := ((bkd (tilF b) fs).length : Int)) (by omega) (K := 20000000) (by omega) (by omega)
      refine revals hA (rc 32 (show .int .i64 (IntKind.i64.wrap (((netA b).over).tdiv ((bkd (tilF b) fs).length : Int))) = .int .i64 (shF (tilF b) fs) by unfold shF; simp only [IntKind.wrap_i64]; congr 1; show _ = (netF (tilF b).a).tdiv _; have e9 : (netA b).over = netF (tilF b).a := rfl; rw [e9]; omega) rn) (by kernel_rfl) fun hA => ?_
      refine runS hA 4 [] xn on (by kernel_rfl) fun w8 hA => ?_
      refine back hA (by kernel_rfl) (At.plain (hWb.trans (hA.below.mono hWs))) fun hA => ?_
      exact ret (v := .int .i64 (shF (tilF b) fs)) hA [] (by kernel_rfl) ⟨by unfold shR; rw [if_neg hb], hA.below⟩
end Go.Proofs.YtbahiemjaomdcaaGreat
