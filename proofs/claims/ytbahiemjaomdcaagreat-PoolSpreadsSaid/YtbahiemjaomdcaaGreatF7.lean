/- Parts of a proof: QF QG QH QI QJ. -/
import Derived.Test.YtbahiemjaomdcaaGreatF6

/- pool: winners. -/
namespace Go.Proofs.YtbahiemjaomdcaaGreat
open Go.RowKit Go.Shelf

set_option maxRecDepth 20000 in
theorem singles_any (w : World) (A : Option Addr) (n c : Nat) :
    Calls Tryz.prog 62 #[.slice A n c] w fun e w' => e = .returned (.func (.func 89) #[] #[.pointer (some ⟨w.heap.size, 0, none⟩)]) ∧ Below w.heap.size w w' ∧ w'.cell? ⟨w.heap.size, 0, none⟩ = some (.slice A n c) := by
  refine enter 4 Tryz.func62 (by kernel_rfl) fun hA => ?_
  refine runS hA 13 [] xn on (by kernel_rfl) fun w1 hA => ?_
  exact ret (v := .func (.func 89) #[] #[.pointer (some ⟨w.heap.size, 0, none⟩)]) hA [] (by kernel_rfl) ⟨rfl, hA.below, cell_of_obj (hA.at_.ok ⟨w.heap.size, .cells #[.slice A n c] 23 (0, 0)⟩ (List.mem_of_getElem? (i := 0) (by kernel_rfl))) rfl rfl⟩
set_option maxRecDepth 20000 in
theorem pairs_any1 (w : World) (bf : Nat) (A : Option Addr) (n c : Nat) :
    Calls Tryz.prog 63 #[.slice A n c, Value.func (.func 64) #[] #[.pointer (some ⟨bf, 0, none⟩)]] w fun e w' => e = .returned (.func (.func 90) #[] #[.pointer (some ⟨w.heap.size, 0, none⟩), .pointer (some ⟨w.heap.size + 1, 0, none⟩)]) ∧ Below w.heap.size w w' ∧ w'.cell? ⟨w.heap.size, 0, none⟩ = some (.slice A n c) ∧ w'.cell? ⟨w.heap.size + 1, 0, none⟩ = some (Value.func (.func 64) #[] #[.pointer (some ⟨bf, 0, none⟩)]) ∧ w.heap.size + 1 < w'.heap.size := by
  refine enter 6 Tryz.func63 (by kernel_rfl) fun hA => ?_
  refine runS hA 14 [] xn on (by kernel_rfl) fun w1 hA => ?_
  exact ret (v := .func (.func 90) #[] #[.pointer (some ⟨w.heap.size, 0, none⟩), .pointer (some ⟨w.heap.size + 1, 0, none⟩)]) hA [] (by kernel_rfl) ⟨rfl, hA.below, cell_of_obj (hA.at_.ok ⟨w.heap.size, .cells #[.slice A n c] 23 (0, 0)⟩ (List.mem_of_getElem? (i := 0) (by kernel_rfl))) rfl rfl, cell_of_obj (hA.at_.ok ⟨w.heap.size + 1, .cells #[Value.func (.func 64) #[] #[.pointer (some ⟨bf, 0, none⟩)]] 115 (0, 0)⟩ (List.mem_of_getElem? (i := 1) (by kernel_rfl))) rfl rfl, by have := hA.at_.lt (kb := ⟨w.heap.size + 1, .cells #[Value.func (.func 64) #[] #[.pointer (some ⟨bf, 0, none⟩)]] 115 (0, 0)⟩) (List.mem_of_getElem? (i := 1) (by kernel_rfl)); exact this⟩
set_option maxRecDepth 20000 in
theorem pairs_any2 (w : World) (bf : Nat) (A : Option Addr) (n c : Nat) :
    Calls Tryz.prog 63 #[.slice A n c, Value.func (.func 66) #[] #[.pointer (some ⟨bf, 0, none⟩)]] w fun e w' => e = .returned (.func (.func 90) #[] #[.pointer (some ⟨w.heap.size, 0, none⟩), .pointer (some ⟨w.heap.size + 1, 0, none⟩)]) ∧ Below w.heap.size w w' ∧ w'.cell? ⟨w.heap.size, 0, none⟩ = some (.slice A n c) ∧ w'.cell? ⟨w.heap.size + 1, 0, none⟩ = some (Value.func (.func 66) #[] #[.pointer (some ⟨bf, 0, none⟩)]) ∧ w.heap.size + 1 < w'.heap.size := by
  refine enter 6 Tryz.func63 (by kernel_rfl) fun hA => ?_
  refine runS hA 14 [] xn on (by kernel_rfl) fun w1 hA => ?_
  exact ret (v := .func (.func 90) #[] #[.pointer (some ⟨w.heap.size, 0, none⟩), .pointer (some ⟨w.heap.size + 1, 0, none⟩)]) hA [] (by kernel_rfl) ⟨rfl, hA.below, cell_of_obj (hA.at_.ok ⟨w.heap.size, .cells #[.slice A n c] 23 (0, 0)⟩ (List.mem_of_getElem? (i := 0) (by kernel_rfl))) rfl rfl, cell_of_obj (hA.at_.ok ⟨w.heap.size + 1, .cells #[Value.func (.func 66) #[] #[.pointer (some ⟨bf, 0, none⟩)]] 115 (0, 0)⟩ (List.mem_of_getElem? (i := 1) (by kernel_rfl))) rfl rfl, by have := hA.at_.lt (kb := ⟨w.heap.size + 1, .cells #[Value.func (.func 66) #[] #[.pointer (some ⟨bf, 0, none⟩)]] 115 (0, 0)⟩) (List.mem_of_getElem? (i := 1) (by kernel_rfl)); exact this⟩
theorem plaF_len {fs : List (List Int)} (h0 : (fs[0]?.getD []).length ≤ 100) (h1 : (fs[1]?.getD []).length ≤ 100) : (plaF fs).length ≤ 200 := by
  unfold plaF srtF
  split
  · rw [List.length_mergeSort, List.length_append]; omega
  · omega
theorem ints_others {w0 w w' : World} {kn kn' r : List KB} {sz sz' B' B2 : Nat} {A : Option Addr} {n : Nat} {xs : List Int} (hA : At w0 w kn r sz) (hA' : At w0 w' kn' (others w0 w kn) sz') (h : IntsAt w B' A n xs) (hk : ∀ b off, A = some ⟨b, off, none⟩ → 0 < n → b ∉ kn.map KB.id) (hB : B' ≤ B2) : IntsAt w' B2 A n xs :=
  ⟨h.1, h.2.1, fun h0 => by
    obtain ⟨b, off, e, hb, hc⟩ := h.2.2 h0
    exact ⟨b, off, e, by omega, fun j hj => others_cell hA hA' (hc j hj) (hk b off e h0)⟩⟩
/-- The winners of a finish. -/
def winF (b : Bk) (fs : List (List Int)) : List (Int × Int) :=
  if b.kind = 0 then sinF (fs[0]?.getD []) else if b.kind = 1 then sinF (plaF fs) else if b.kind = 2 then prsF (pairF (fs[0]?.getD [])) (plaF fs) else prsF (bothF (fs[0]?.getD [])) (plaF fs)
/-- An iterator over the winners, whose blocks are those from z on. -/
def WinIt (gf : Nat) (lb : Array Value) (b : Bk) (fs : List (List Int)) (B z : Nat) (w : World) : Prop :=
  (∀ args w, (callFunc gf args).run Tryz.prog w = .ok (.enter gf args) w) ∧ ∀ n₀, B ≤ n₀ → n₀ ≤ z → IterAt Tryz.prog gf lb encS n₀ (fun k => z ≤ k ∧ k < w.heap.size) (fun l => l = winF b fs) (fun _ => True) (winF b fs).length w
set_option maxRecDepth 20000 in
theorem winners_any (w : World) (b : Bk) (A : Option Addr) (n c : Nat) (A2 : Option Addr) (m c2 : Nat) (B : Nat) (A3 : Option Addr) (nf cf : Nat) (fs : List (List Int)) (h : FinAt w B A3 nf fs) (hB : B ≤ w.heap.size) (h0 : 0 < nf)
    (h1 : (fs[0]?.getD []).length = 1 → 1 < nf ∧ 0 < (fs[1]?.getD []).length) (hl0 : (fs[0]?.getD []).length ≤ 100) (hl1 : (fs[1]?.getD []).length ≤ 100) :
    Calls Tryz.prog 36 #[bkV b A n c A2 m c2, .slice A3 nf cf] w fun e w' => ∃ gf lb, e = .returned (.func (.func gf) #[] lb) ∧ Below w.heap.size w w' ∧ WinIt gf lb b fs B w.heap.size w' := by
  obtain ⟨b0, off, rfl, hbB, hc⟩ := h.2.2 h0
  obtain ⟨A1, c1, k1, l1, x1⟩ := hc 0 h0
  have hc0 : b0 < w.heap.size ∧ w.cell? ⟨b0, off + 0 * 1, none⟩ = some (.slice A1 (fs[0]?.getD []).length c1) := ⟨by omega, by simpa using k1⟩
  have hpl := plaF_len hl0 hl1
  obtain ⟨F, hF⟩ : ∃ F, F = fs[0]?.getD [] := ⟨_, rfl⟩
  rw [← hF] at hc0 l1 x1 h1 hl0
  refine enter 31 Tryz.func36 (by kernel_rfl) fun hA => ?_
  refine runS hA 7 [] xn on (by kernel_rfl) fun w1 hA => ?_
  refine draw hA [true] [0, 1, 2, 3, 4, 5] (by kernel_rfl) (by kernel_rfl) fun hA => ?_
  refine runS hA 4 [.t 0, .t 1, .i, .t 2, .x (.slice A1 F.length c1), .t 3] (xc (a := ⟨b0, off, none⟩) hc0 xn) (oc (show (0 : Int) ≤ (0 : Int) ∧ (0 : Int) < (nf : Int) by omega) on) (by kernel_rfl) fun w2 hA => ?_
  refine two hA 4 5 (by kernel_rfl) (fun hA => ?_) (fun hA => ?_)
  ·
    have hq0 : w.heap.size + 1 ≤ w2.heap.size := by have := hA.at_.lt (kb := ⟨w.heap.size, .cells #[.int .i64 b.kind, .int .i64 b.runners, .slice A n c, .slice A2 m c2, .bool b.fav, .int .i64 b.car, .int .i64 b.dut, .int .i64 b.stp] 72 (0, 0)⟩) (List.mem_of_getElem? (i := 0) (by kernel_rfl)); exact this
    refine call hA [] on (placed_any w2 B (some ⟨b0, off, none⟩) nf cf fs (h.below hA.below hB) (Nat.le_trans hB hA.size) h0 (by rw [← hF]; exact fun e => ⟨(h1 e).1, (h1 e).2, hl1⟩)) (by kernel_rfl) (by rintro e v ⟨A', l, c', rfl, hbp, x2, hn2, l2⟩; exact hbp) ?_
    rintro e w3 ⟨A', l, c', rfl, hbp, x2, hn2, l2⟩
    refine ⟨_, rfl, fun hA => ?_⟩
    replace hA := hA.allK [⟨w.heap.size, .cells #[.int .i64 b.kind, .int .i64 b.runners, .slice A n c, .slice A2 m c2, .bool b.fav, .int .i64 b.car, .int .i64 b.dut, .int .i64 b.stp] 72 (0, 0)⟩] (by kernel_rfl)
    have hA2 := hA.atK [⟨w.heap.size, .cells #[.int .i64 b.kind, .int .i64 b.runners, .slice A n c, .slice A2 m c2, .bool b.fav, .int .i64 b.car, .int .i64 b.dut, .int .i64 b.stp] 72 (0, 0)⟩] (by kernel_rfl)
    have hbz := hbp.size
    have hz2 : l ≤ 200 := by have := x2.1; omega
    have hni : ∀ b7 off, A' = some ⟨b7, off, none⟩ → 0 < l → b7 ∉ ([⟨w.heap.size, .cells #[.int .i64 b.kind, .int .i64 b.runners, .slice A n c, .slice A2 m c2, .bool b.fav, .int .i64 b.car, .int .i64 b.dut, .int .i64 b.stp] 72 (0, 0)⟩] : List KB).map KB.id := by
      intro b7 off e hl hm
      simp only [List.map_cons, List.map_nil, List.mem_cons, List.not_mem_nil, or_false] at hm
      have := hn2 b7 off e hl
      omega
    refine runS hA 21 [.h 5, .b false, .k 1, .k 0, .t 0] xn on (by kernel_rfl) fun w4 hA => ?_
    by_cases hk0 : b.kind = 0
    case pos =>
      refine runS hA 4 [.b true, .k 1] xn (oc (eq_t hk0) on) (by kernel_rfl) fun w5 hA => ?_
      have y1 : IntsAt w5 B A1 F.length F := x1.below hA.below hB
      have hzz := hA.size
      have hz3 : w5.heap.size = w3.heap.size + 1 := hA.at_.size.trans (by kernel_rfl)
      have y2 : IntsAt w5 w5.heap.size A' l (plaF fs) := ints_others hA2 hA.at_ x2 hni (by omega)
      have hcf := cell_of_obj (a := ⟨w3.heap.size, 0, none⟩) (hA.at_.ok ⟨w3.heap.size, .cells #[.slice A1 F.length c1] 23 (0, 0)⟩ (List.mem_of_getElem? (i := 1) (by kernel_rfl))) rfl rfl
      have hlf : w3.heap.size < w5.heap.size := hA.at_.lt (kb := ⟨w3.heap.size, .cells #[.slice A1 F.length c1] 23 (0, 0)⟩) (List.mem_of_getElem? (i := 1) (by kernel_rfl))
      have hlo : w.heap.size ≤ w3.heap.size := hA.at_.low ⟨w3.heap.size, .cells #[.slice A1 F.length c1] 23 (0, 0)⟩ (List.mem_of_getElem? (i := 1) (by kernel_rfl))
      refine call hA [] on (singles_any w5 A1 (F.length) (c1)) (by kernel_rfl) (by rintro e v ⟨rfl, hbs, hcs⟩; exact hbs) ?_
      rintro e w6 ⟨rfl, hbs, hcs⟩
      refine ⟨_, rfl, fun hA => ?_⟩
      have hbv := hA.below
      have hls : w5.heap.size < w6.heap.size := by rcases Nat.lt_or_ge w5.heap.size w6.heap.size with h | h; exact h; unfold World.cell? at hcs; rw [Array.getElem?_eq_none h] at hcs; cases hcs
      refine rebase hA w6 (by kernel_rfl) (At.start _) fun hA => ?_
      refine runS hA 6 [] xn on (by kernel_rfl) fun w7 hA => ?_
      have hb9 : Below w6.heap.size w6 w7 := hA.below
      have hz9 := hb9.size
      have hbf : Below w5.heap.size w5 w7 := hbs.trans (hb9.mono hbs.size)
      refine back hA (by kernel_rfl) (At.plain (hbv.trans (hb9.mono hbv.size))) fun hA => ?_
      refine ret (v := .func (.func 89) #[] #[.pointer (some ⟨w5.heap.size, 0, none⟩)]) hA [] (by kernel_rfl) ⟨_, _, rfl, hA.below, fun _ _ => by kernel_rfl, fun n₀ hB0 hz0 => ?_⟩
      have hW : winF b fs = sinF F := by unfold winF; rw [if_pos hk0, hF]
      rw [hW, show (sinF F).length = F.length from sinF_len F]
      exact singles1_it w7 n₀ B w5.heap.size A1 F.length c1 F _ (y1.below hbf (by omega)) (by omega) (by omega) (by omega) ((hb9.cell (p := ⟨w5.heap.size, 0, none⟩) (by show _ < w6.heap.size; omega)).trans hcs) (by omega) (fun b' off' e h0' => .inl (by obtain ⟨b2, off2, e2, hb2, -⟩ := x1.2.2 h0'; rw [e] at e2; cases e2; omega))
    by_cases hk1 : b.kind = 1
    case pos =>
      refine runS hA 11 [.b false, .b true] xn (oc (eq_f hk0) (oc (eq_t hk1) on)) (by kernel_rfl) fun w5 hA => ?_
      have y1 : IntsAt w5 B A1 F.length F := x1.below hA.below hB
      have hzz := hA.size
      have hz3 : w5.heap.size = w3.heap.size + 1 := hA.at_.size.trans (by kernel_rfl)
      have y2 : IntsAt w5 w5.heap.size A' l (plaF fs) := ints_others hA2 hA.at_ x2 hni (by omega)
      have hcf := cell_of_obj (a := ⟨w3.heap.size, 0, none⟩) (hA.at_.ok ⟨w3.heap.size, .cells #[.slice A1 F.length c1] 23 (0, 0)⟩ (List.mem_of_getElem? (i := 1) (by kernel_rfl))) rfl rfl
      have hlf : w3.heap.size < w5.heap.size := hA.at_.lt (kb := ⟨w3.heap.size, .cells #[.slice A1 F.length c1] 23 (0, 0)⟩) (List.mem_of_getElem? (i := 1) (by kernel_rfl))
      have hlo : w.heap.size ≤ w3.heap.size := hA.at_.low ⟨w3.heap.size, .cells #[.slice A1 F.length c1] 23 (0, 0)⟩ (List.mem_of_getElem? (i := 1) (by kernel_rfl))
      refine call hA [] on (singles_any w5 A' (l) (c')) (by kernel_rfl) (by rintro e v ⟨rfl, hbs, hcs⟩; exact hbs) ?_
      rintro e w6 ⟨rfl, hbs, hcs⟩
      refine ⟨_, rfl, fun hA => ?_⟩
      have hbv := hA.below
      have hls : w5.heap.size < w6.heap.size := by rcases Nat.lt_or_ge w5.heap.size w6.heap.size with h | h; exact h; unfold World.cell? at hcs; rw [Array.getElem?_eq_none h] at hcs; cases hcs
      refine rebase hA w6 (by kernel_rfl) (At.start _) fun hA => ?_
      refine runS hA 6 [] xn on (by kernel_rfl) fun w7 hA => ?_
      have hb9 : Below w6.heap.size w6 w7 := hA.below
      have hz9 := hb9.size
      have hbf : Below w5.heap.size w5 w7 := hbs.trans (hb9.mono hbs.size)
      refine back hA (by kernel_rfl) (At.plain (hbv.trans (hb9.mono hbv.size))) fun hA => ?_
      refine ret (v := .func (.func 89) #[] #[.pointer (some ⟨w5.heap.size, 0, none⟩)]) hA [] (by kernel_rfl) ⟨_, _, rfl, hA.below, fun _ _ => by kernel_rfl, fun n₀ hB0 hz0 => ?_⟩
      have hW : winF b fs = sinF (plaF fs) := by unfold winF; rw [if_neg hk0, if_pos hk1]
      rw [hW, show (sinF (plaF fs)).length = l from (sinF_len _).trans x2.1]
      exact singles1_it w7 n₀ w5.heap.size w5.heap.size A' l c' (plaF fs) _ (y2.below hbf (Nat.le_refl _)) (by omega) (by omega) (by omega) ((hb9.cell (p := ⟨w5.heap.size, 0, none⟩) (by show _ < w6.heap.size; omega)).trans hcs) (by omega) (fun b' off' e h0' => by rcases hn2 b' off' e h0' with h | h; exact .inl (by omega); obtain ⟨b2, off2, e2, hb2, -⟩ := x2.2.2 h0'; rw [e] at e2; cases e2; exact .inr ⟨by omega, by omega⟩)
    by_cases hk2 : b.kind = 2
    case pos =>
      refine runS hA 19 [.b false, .b false, .b true] xn (oc (eq_f hk0) (oc (eq_f hk1) (oc (eq_t hk2) on))) (by kernel_rfl) fun w5 hA => ?_
      have y1 : IntsAt w5 B A1 F.length F := x1.below hA.below hB
      have hzz := hA.size
      have hz3 : w5.heap.size = w3.heap.size + 1 := hA.at_.size.trans (by kernel_rfl)
      have y2 : IntsAt w5 w5.heap.size A' l (plaF fs) := ints_others hA2 hA.at_ x2 hni (by omega)
      have hcf := cell_of_obj (a := ⟨w3.heap.size, 0, none⟩) (hA.at_.ok ⟨w3.heap.size, .cells #[.slice A1 F.length c1] 23 (0, 0)⟩ (List.mem_of_getElem? (i := 1) (by kernel_rfl))) rfl rfl
      have hlf : w3.heap.size < w5.heap.size := hA.at_.lt (kb := ⟨w3.heap.size, .cells #[.slice A1 F.length c1] 23 (0, 0)⟩) (List.mem_of_getElem? (i := 1) (by kernel_rfl))
      have hlo : w.heap.size ≤ w3.heap.size := hA.at_.low ⟨w3.heap.size, .cells #[.slice A1 F.length c1] 23 (0, 0)⟩ (List.mem_of_getElem? (i := 1) (by kernel_rfl))
      refine call hA [] on (pairs_any1 w5 (w3.heap.size) A' (l) (c')) (by kernel_rfl) (by rintro e v ⟨rfl, hbs, hcs, hcw, hlw⟩; exact hbs) ?_
      rintro e w6 ⟨rfl, hbs, hcs, hcw, hlw⟩
      refine ⟨_, rfl, fun hA => ?_⟩
      have hbv := hA.below
      have hls : w5.heap.size < w6.heap.size := by rcases Nat.lt_or_ge w5.heap.size w6.heap.size with h | h; exact h; unfold World.cell? at hcs; rw [Array.getElem?_eq_none h] at hcs; cases hcs
      refine rebase hA w6 (by kernel_rfl) (At.start _) fun hA => ?_
      refine runS hA 6 [] xn on (by kernel_rfl) fun w7 hA => ?_
      have hb9 : Below w6.heap.size w6 w7 := hA.below
      have hz9 := hb9.size
      have hbf : Below w5.heap.size w5 w7 := hbs.trans (hb9.mono hbs.size)
      refine back hA (by kernel_rfl) (At.plain (hbv.trans (hb9.mono hbv.size))) fun hA => ?_
      refine ret (v := .func (.func 90) #[] #[.pointer (some ⟨w5.heap.size, 0, none⟩), .pointer (some ⟨w5.heap.size + 1, 0, none⟩)]) hA [] (by kernel_rfl) ⟨_, _, rfl, hA.below, fun _ _ => by kernel_rfl, fun n₀ hB0 hz0 => ?_⟩
      have hW : winF b fs = prsF (pairF F) (plaF fs) := by unfold winF; rw [if_neg hk0, if_neg hk1, if_pos hk2, hF]
      rw [hW]
      exact pairs1_it1 w7 n₀ w5.heap.size w5.heap.size (w5.heap.size + 1) (w3.heap.size) A' l c' (plaF fs) A1 F.length c1 F w7.heap.size _ ⟨(y2.below hbf (Nat.le_refl _)), (y1.below hbf (by omega)).more (by omega), (hb9.cell (p := ⟨w5.heap.size, 0, none⟩) (by show _ < w6.heap.size; omega)).trans hcs, (hb9.cell (p := ⟨w5.heap.size + 1, 0, none⟩) (by show _ < w6.heap.size; omega)).trans hcw, (hbf.cell (p := ⟨w3.heap.size, 0, none⟩) (by show _ < w5.heap.size; omega)).trans hcf, Nat.le_refl _⟩ (by omega) (by omega) (by omega) (by omega) (by omega) (by omega) ⟨by omega, by omega⟩ ⟨by omega, by omega⟩ ⟨by omega, by omega⟩ (fun b' off' e h0' => by rcases hn2 b' off' e h0' with h | h; exact .inl (by omega); obtain ⟨b2, off2, e2, hb2, -⟩ := x2.2.2 h0'; rw [e] at e2; cases e2; exact .inr ⟨by omega, by omega⟩) (fun b' off' e h0' => .inl (by obtain ⟨b2, off2, e2, hb2, -⟩ := x1.2.2 h0'; rw [e] at e2; cases e2; omega))
    case neg =>
      refine runS hA 22 [.b false, .b false, .b false] xn (oc (eq_f hk0) (oc (eq_f hk1) (oc (eq_f hk2) on))) (by kernel_rfl) fun w5 hA => ?_
      have y1 : IntsAt w5 B A1 F.length F := x1.below hA.below hB
      have hzz := hA.size
      have hz3 : w5.heap.size = w3.heap.size + 1 := hA.at_.size.trans (by kernel_rfl)
      have y2 : IntsAt w5 w5.heap.size A' l (plaF fs) := ints_others hA2 hA.at_ x2 hni (by omega)
      have hcf := cell_of_obj (a := ⟨w3.heap.size, 0, none⟩) (hA.at_.ok ⟨w3.heap.size, .cells #[.slice A1 F.length c1] 23 (0, 0)⟩ (List.mem_of_getElem? (i := 1) (by kernel_rfl))) rfl rfl
      have hlf : w3.heap.size < w5.heap.size := hA.at_.lt (kb := ⟨w3.heap.size, .cells #[.slice A1 F.length c1] 23 (0, 0)⟩) (List.mem_of_getElem? (i := 1) (by kernel_rfl))
      have hlo : w.heap.size ≤ w3.heap.size := hA.at_.low ⟨w3.heap.size, .cells #[.slice A1 F.length c1] 23 (0, 0)⟩ (List.mem_of_getElem? (i := 1) (by kernel_rfl))
      refine call hA [] on (pairs_any2 w5 (w3.heap.size) A' (l) (c')) (by kernel_rfl) (by rintro e v ⟨rfl, hbs, hcs, hcw, hlw⟩; exact hbs) ?_
      rintro e w6 ⟨rfl, hbs, hcs, hcw, hlw⟩
      refine ⟨_, rfl, fun hA => ?_⟩
      have hbv := hA.below
      have hls : w5.heap.size < w6.heap.size := by rcases Nat.lt_or_ge w5.heap.size w6.heap.size with h | h; exact h; unfold World.cell? at hcs; rw [Array.getElem?_eq_none h] at hcs; cases hcs
      refine rebase hA w6 (by kernel_rfl) (At.start _) fun hA => ?_
      refine runS hA 4 [] xn on (by kernel_rfl) fun w7 hA => ?_
      have hb9 : Below w6.heap.size w6 w7 := hA.below
      have hz9 := hb9.size
      have hbf : Below w5.heap.size w5 w7 := hbs.trans (hb9.mono hbs.size)
      refine back hA (by kernel_rfl) (At.plain (hbv.trans (hb9.mono hbv.size))) fun hA => ?_
      refine ret (v := .func (.func 90) #[] #[.pointer (some ⟨w5.heap.size, 0, none⟩), .pointer (some ⟨w5.heap.size + 1, 0, none⟩)]) hA [] (by kernel_rfl) ⟨_, _, rfl, hA.below, fun _ _ => by kernel_rfl, fun n₀ hB0 hz0 => ?_⟩
      have hW : winF b fs = prsF (bothF F) (plaF fs) := by unfold winF; rw [if_neg hk0, if_neg hk1, if_neg hk2, hF]
      rw [hW]
      exact pairs1_it2 w7 n₀ w5.heap.size w5.heap.size (w5.heap.size + 1) (w3.heap.size) A' l c' (plaF fs) A1 F.length c1 F w7.heap.size _ ⟨(y2.below hbf (Nat.le_refl _)), (y1.below hbf (by omega)).more (by omega), (hb9.cell (p := ⟨w5.heap.size, 0, none⟩) (by show _ < w6.heap.size; omega)).trans hcs, (hb9.cell (p := ⟨w5.heap.size + 1, 0, none⟩) (by show _ < w6.heap.size; omega)).trans hcw, (hbf.cell (p := ⟨w3.heap.size, 0, none⟩) (by show _ < w5.heap.size; omega)).trans hcf, Nat.le_refl _⟩ (by omega) (by omega) (by omega) (by omega) (by omega) (by omega) ⟨by omega, by omega⟩ ⟨by omega, by omega⟩ ⟨by omega, by omega⟩ (fun b' off' e h0' => by rcases hn2 b' off' e h0' with h | h; exact .inl (by omega); obtain ⟨b2, off2, e2, hb2, -⟩ := x2.2.2 h0'; rw [e] at e2; cases e2; exact .inr ⟨by omega, by omega⟩) (fun b' off' e h0' => .inl (by obtain ⟨b2, off2, e2, hb2, -⟩ := x1.2.2 h0'; rw [e] at e2; cases e2; omega))
  ·
    refine runS hA 1 [] xn on (by kernel_rfl) fun w3 hA => ?_
    have hq0 : w.heap.size + 2 ≤ w3.heap.size := by have := hA.at_.lt (kb := ⟨w.heap.size + 1, .cells #[.slice none 0 0] 23 (0, 0)⟩) (List.mem_of_getElem? (i := 1) (by kernel_rfl)); exact this
    refine call hA [] on (placed_any w3 B (some ⟨b0, off, none⟩) nf cf fs (h.below hA.below hB) (Nat.le_trans hB hA.size) h0 (by rw [← hF]; exact fun e => ⟨(h1 e).1, (h1 e).2, hl1⟩)) (by kernel_rfl) (by rintro e v ⟨A', l, c', rfl, hbp, x2, hn2, l2⟩; exact hbp) ?_
    rintro e w4 ⟨A', l, c', rfl, hbp, x2, hn2, l2⟩
    refine ⟨_, rfl, fun hA => ?_⟩
    replace hA := hA.allK [⟨w.heap.size, .cells #[.int .i64 b.kind, .int .i64 b.runners, .slice A n c, .slice A2 m c2, .bool b.fav, .int .i64 b.car, .int .i64 b.dut, .int .i64 b.stp] 72 (0, 0)⟩, ⟨w.heap.size + 1, .cells #[.slice none 0 0] 23 (0, 0)⟩] (by kernel_rfl)
    have hA2 := hA.atK [⟨w.heap.size, .cells #[.int .i64 b.kind, .int .i64 b.runners, .slice A n c, .slice A2 m c2, .bool b.fav, .int .i64 b.car, .int .i64 b.dut, .int .i64 b.stp] 72 (0, 0)⟩, ⟨w.heap.size + 1, .cells #[.slice none 0 0] 23 (0, 0)⟩] (by kernel_rfl)
    have hbz := hbp.size
    have hz2 : l ≤ 200 := by have := x2.1; omega
    have hni : ∀ b7 off, A' = some ⟨b7, off, none⟩ → 0 < l → b7 ∉ ([⟨w.heap.size, .cells #[.int .i64 b.kind, .int .i64 b.runners, .slice A n c, .slice A2 m c2, .bool b.fav, .int .i64 b.car, .int .i64 b.dut, .int .i64 b.stp] 72 (0, 0)⟩, ⟨w.heap.size + 1, .cells #[.slice none 0 0] 23 (0, 0)⟩] : List KB).map KB.id := by
      intro b7 off e hl hm
      simp only [List.map_cons, List.map_nil, List.mem_cons, List.not_mem_nil, or_false] at hm
      have := hn2 b7 off e hl
      omega
    refine runS hA 20 [.b false, .k 1, .k 0, .t 0] xn on (by kernel_rfl) fun w5 hA => ?_
    by_cases hk0 : b.kind = 0
    case pos =>
      refine runS hA 4 [.b true, .k 1] xn (oc (eq_t hk0) on) (by kernel_rfl) fun w6 hA => ?_
      have y1 : IntsAt w6 B A1 F.length F := x1.below hA.below hB
      have hzz := hA.size
      have hz3 : w6.heap.size = w4.heap.size := hA.at_.size.trans (by kernel_rfl)
      have y2 : IntsAt w6 w6.heap.size A' l (plaF fs) := ints_others hA2 hA.at_ x2 hni (by omega)
      have hcf := cell_of_obj (a := ⟨w.heap.size + 1, 0, none⟩) (hA.at_.ok ⟨w.heap.size + 1, .cells #[.slice A1 F.length c1] 23 (0, 0)⟩ (List.mem_of_getElem? (i := 1) (by kernel_rfl))) rfl rfl
      have hlf : w.heap.size + 1 < w6.heap.size := hA.at_.lt (kb := ⟨w.heap.size + 1, .cells #[.slice A1 F.length c1] 23 (0, 0)⟩) (List.mem_of_getElem? (i := 1) (by kernel_rfl))
      have hlo : w.heap.size ≤ w.heap.size + 1 := hA.at_.low ⟨w.heap.size + 1, .cells #[.slice A1 F.length c1] 23 (0, 0)⟩ (List.mem_of_getElem? (i := 1) (by kernel_rfl))
      refine call hA [] on (singles_any w6 A1 (F.length) (c1)) (by kernel_rfl) (by rintro e v ⟨rfl, hbs, hcs⟩; exact hbs) ?_
      rintro e w7 ⟨rfl, hbs, hcs⟩
      refine ⟨_, rfl, fun hA => ?_⟩
      have hbv := hA.below
      have hls : w6.heap.size < w7.heap.size := by rcases Nat.lt_or_ge w6.heap.size w7.heap.size with h | h; exact h; unfold World.cell? at hcs; rw [Array.getElem?_eq_none h] at hcs; cases hcs
      refine rebase hA w7 (by kernel_rfl) (At.start _) fun hA => ?_
      refine runS hA 6 [] xn on (by kernel_rfl) fun w8 hA => ?_
      have hb9 : Below w7.heap.size w7 w8 := hA.below
      have hz9 := hb9.size
      have hbf : Below w6.heap.size w6 w8 := hbs.trans (hb9.mono hbs.size)
      refine back hA (by kernel_rfl) (At.plain (hbv.trans (hb9.mono hbv.size))) fun hA => ?_
      refine ret (v := .func (.func 89) #[] #[.pointer (some ⟨w6.heap.size, 0, none⟩)]) hA [] (by kernel_rfl) ⟨_, _, rfl, hA.below, fun _ _ => by kernel_rfl, fun n₀ hB0 hz0 => ?_⟩
      have hW : winF b fs = sinF F := by unfold winF; rw [if_pos hk0, hF]
      rw [hW, show (sinF F).length = F.length from sinF_len F]
      exact singles1_it w8 n₀ B w6.heap.size A1 F.length c1 F _ (y1.below hbf (by omega)) (by omega) (by omega) (by omega) ((hb9.cell (p := ⟨w6.heap.size, 0, none⟩) (by show _ < w7.heap.size; omega)).trans hcs) (by omega) (fun b' off' e h0' => .inl (by obtain ⟨b2, off2, e2, hb2, -⟩ := x1.2.2 h0'; rw [e] at e2; cases e2; omega))
    by_cases hk1 : b.kind = 1
    case pos =>
      refine runS hA 11 [.b false, .b true] xn (oc (eq_f hk0) (oc (eq_t hk1) on)) (by kernel_rfl) fun w6 hA => ?_
      have y1 : IntsAt w6 B A1 F.length F := x1.below hA.below hB
      have hzz := hA.size
      have hz3 : w6.heap.size = w4.heap.size := hA.at_.size.trans (by kernel_rfl)
      have y2 : IntsAt w6 w6.heap.size A' l (plaF fs) := ints_others hA2 hA.at_ x2 hni (by omega)
      have hcf := cell_of_obj (a := ⟨w.heap.size + 1, 0, none⟩) (hA.at_.ok ⟨w.heap.size + 1, .cells #[.slice A1 F.length c1] 23 (0, 0)⟩ (List.mem_of_getElem? (i := 1) (by kernel_rfl))) rfl rfl
      have hlf : w.heap.size + 1 < w6.heap.size := hA.at_.lt (kb := ⟨w.heap.size + 1, .cells #[.slice A1 F.length c1] 23 (0, 0)⟩) (List.mem_of_getElem? (i := 1) (by kernel_rfl))
      have hlo : w.heap.size ≤ w.heap.size + 1 := hA.at_.low ⟨w.heap.size + 1, .cells #[.slice A1 F.length c1] 23 (0, 0)⟩ (List.mem_of_getElem? (i := 1) (by kernel_rfl))
      refine call hA [] on (singles_any w6 A' (l) (c')) (by kernel_rfl) (by rintro e v ⟨rfl, hbs, hcs⟩; exact hbs) ?_
      rintro e w7 ⟨rfl, hbs, hcs⟩
      refine ⟨_, rfl, fun hA => ?_⟩
      have hbv := hA.below
      have hls : w6.heap.size < w7.heap.size := by rcases Nat.lt_or_ge w6.heap.size w7.heap.size with h | h; exact h; unfold World.cell? at hcs; rw [Array.getElem?_eq_none h] at hcs; cases hcs
      refine rebase hA w7 (by kernel_rfl) (At.start _) fun hA => ?_
      refine runS hA 6 [] xn on (by kernel_rfl) fun w8 hA => ?_
      have hb9 : Below w7.heap.size w7 w8 := hA.below
      have hz9 := hb9.size
      have hbf : Below w6.heap.size w6 w8 := hbs.trans (hb9.mono hbs.size)
      refine back hA (by kernel_rfl) (At.plain (hbv.trans (hb9.mono hbv.size))) fun hA => ?_
      refine ret (v := .func (.func 89) #[] #[.pointer (some ⟨w6.heap.size, 0, none⟩)]) hA [] (by kernel_rfl) ⟨_, _, rfl, hA.below, fun _ _ => by kernel_rfl, fun n₀ hB0 hz0 => ?_⟩
      have hW : winF b fs = sinF (plaF fs) := by unfold winF; rw [if_neg hk0, if_pos hk1]
      rw [hW, show (sinF (plaF fs)).length = l from (sinF_len _).trans x2.1]
      exact singles1_it w8 n₀ w6.heap.size w6.heap.size A' l c' (plaF fs) _ (y2.below hbf (Nat.le_refl _)) (by omega) (by omega) (by omega) ((hb9.cell (p := ⟨w6.heap.size, 0, none⟩) (by show _ < w7.heap.size; omega)).trans hcs) (by omega) (fun b' off' e h0' => by rcases hn2 b' off' e h0' with h | h; exact .inl (by omega); obtain ⟨b2, off2, e2, hb2, -⟩ := x2.2.2 h0'; rw [e] at e2; cases e2; exact .inr ⟨by omega, by omega⟩)
    by_cases hk2 : b.kind = 2
    case pos =>
      refine runS hA 19 [.b false, .b false, .b true] xn (oc (eq_f hk0) (oc (eq_f hk1) (oc (eq_t hk2) on))) (by kernel_rfl) fun w6 hA => ?_
      have y1 : IntsAt w6 B A1 F.length F := x1.below hA.below hB
      have hzz := hA.size
      have hz3 : w6.heap.size = w4.heap.size := hA.at_.size.trans (by kernel_rfl)
      have y2 : IntsAt w6 w6.heap.size A' l (plaF fs) := ints_others hA2 hA.at_ x2 hni (by omega)
      have hcf := cell_of_obj (a := ⟨w.heap.size + 1, 0, none⟩) (hA.at_.ok ⟨w.heap.size + 1, .cells #[.slice A1 F.length c1] 23 (0, 0)⟩ (List.mem_of_getElem? (i := 1) (by kernel_rfl))) rfl rfl
      have hlf : w.heap.size + 1 < w6.heap.size := hA.at_.lt (kb := ⟨w.heap.size + 1, .cells #[.slice A1 F.length c1] 23 (0, 0)⟩) (List.mem_of_getElem? (i := 1) (by kernel_rfl))
      have hlo : w.heap.size ≤ w.heap.size + 1 := hA.at_.low ⟨w.heap.size + 1, .cells #[.slice A1 F.length c1] 23 (0, 0)⟩ (List.mem_of_getElem? (i := 1) (by kernel_rfl))
      refine call hA [] on (pairs_any1 w6 (w.heap.size + 1) A' (l) (c')) (by kernel_rfl) (by rintro e v ⟨rfl, hbs, hcs, hcw, hlw⟩; exact hbs) ?_
      rintro e w7 ⟨rfl, hbs, hcs, hcw, hlw⟩
      refine ⟨_, rfl, fun hA => ?_⟩
      have hbv := hA.below
      have hls : w6.heap.size < w7.heap.size := by rcases Nat.lt_or_ge w6.heap.size w7.heap.size with h | h; exact h; unfold World.cell? at hcs; rw [Array.getElem?_eq_none h] at hcs; cases hcs
      refine rebase hA w7 (by kernel_rfl) (At.start _) fun hA => ?_
      refine runS hA 6 [] xn on (by kernel_rfl) fun w8 hA => ?_
      have hb9 : Below w7.heap.size w7 w8 := hA.below
      have hz9 := hb9.size
      have hbf : Below w6.heap.size w6 w8 := hbs.trans (hb9.mono hbs.size)
      refine back hA (by kernel_rfl) (At.plain (hbv.trans (hb9.mono hbv.size))) fun hA => ?_
      refine ret (v := .func (.func 90) #[] #[.pointer (some ⟨w6.heap.size, 0, none⟩), .pointer (some ⟨w6.heap.size + 1, 0, none⟩)]) hA [] (by kernel_rfl) ⟨_, _, rfl, hA.below, fun _ _ => by kernel_rfl, fun n₀ hB0 hz0 => ?_⟩
      have hW : winF b fs = prsF (pairF F) (plaF fs) := by unfold winF; rw [if_neg hk0, if_neg hk1, if_pos hk2, hF]
      rw [hW]
      exact pairs1_it1 w8 n₀ w6.heap.size w6.heap.size (w6.heap.size + 1) (w.heap.size + 1) A' l c' (plaF fs) A1 F.length c1 F w8.heap.size _ ⟨(y2.below hbf (Nat.le_refl _)), (y1.below hbf (by omega)).more (by omega), (hb9.cell (p := ⟨w6.heap.size, 0, none⟩) (by show _ < w7.heap.size; omega)).trans hcs, (hb9.cell (p := ⟨w6.heap.size + 1, 0, none⟩) (by show _ < w7.heap.size; omega)).trans hcw, (hbf.cell (p := ⟨w.heap.size + 1, 0, none⟩) (by show _ < w6.heap.size; omega)).trans hcf, Nat.le_refl _⟩ (by omega) (by omega) (by omega) (by omega) (by omega) (by omega) ⟨by omega, by omega⟩ ⟨by omega, by omega⟩ ⟨by omega, by omega⟩ (fun b' off' e h0' => by rcases hn2 b' off' e h0' with h | h; exact .inl (by omega); obtain ⟨b2, off2, e2, hb2, -⟩ := x2.2.2 h0'; rw [e] at e2; cases e2; exact .inr ⟨by omega, by omega⟩) (fun b' off' e h0' => .inl (by obtain ⟨b2, off2, e2, hb2, -⟩ := x1.2.2 h0'; rw [e] at e2; cases e2; omega))
    case neg =>
      refine runS hA 22 [.b false, .b false, .b false] xn (oc (eq_f hk0) (oc (eq_f hk1) (oc (eq_f hk2) on))) (by kernel_rfl) fun w6 hA => ?_
      have y1 : IntsAt w6 B A1 F.length F := x1.below hA.below hB
      have hzz := hA.size
      have hz3 : w6.heap.size = w4.heap.size := hA.at_.size.trans (by kernel_rfl)
      have y2 : IntsAt w6 w6.heap.size A' l (plaF fs) := ints_others hA2 hA.at_ x2 hni (by omega)
      have hcf := cell_of_obj (a := ⟨w.heap.size + 1, 0, none⟩) (hA.at_.ok ⟨w.heap.size + 1, .cells #[.slice A1 F.length c1] 23 (0, 0)⟩ (List.mem_of_getElem? (i := 1) (by kernel_rfl))) rfl rfl
      have hlf : w.heap.size + 1 < w6.heap.size := hA.at_.lt (kb := ⟨w.heap.size + 1, .cells #[.slice A1 F.length c1] 23 (0, 0)⟩) (List.mem_of_getElem? (i := 1) (by kernel_rfl))
      have hlo : w.heap.size ≤ w.heap.size + 1 := hA.at_.low ⟨w.heap.size + 1, .cells #[.slice A1 F.length c1] 23 (0, 0)⟩ (List.mem_of_getElem? (i := 1) (by kernel_rfl))
      refine call hA [] on (pairs_any2 w6 (w.heap.size + 1) A' (l) (c')) (by kernel_rfl) (by rintro e v ⟨rfl, hbs, hcs, hcw, hlw⟩; exact hbs) ?_
      rintro e w7 ⟨rfl, hbs, hcs, hcw, hlw⟩
      refine ⟨_, rfl, fun hA => ?_⟩
      have hbv := hA.below
      have hls : w6.heap.size < w7.heap.size := by rcases Nat.lt_or_ge w6.heap.size w7.heap.size with h | h; exact h; unfold World.cell? at hcs; rw [Array.getElem?_eq_none h] at hcs; cases hcs
      refine rebase hA w7 (by kernel_rfl) (At.start _) fun hA => ?_
      refine runS hA 4 [] xn on (by kernel_rfl) fun w8 hA => ?_
      have hb9 : Below w7.heap.size w7 w8 := hA.below
      have hz9 := hb9.size
      have hbf : Below w6.heap.size w6 w8 := hbs.trans (hb9.mono hbs.size)
      refine back hA (by kernel_rfl) (At.plain (hbv.trans (hb9.mono hbv.size))) fun hA => ?_
      refine ret (v := .func (.func 90) #[] #[.pointer (some ⟨w6.heap.size, 0, none⟩), .pointer (some ⟨w6.heap.size + 1, 0, none⟩)]) hA [] (by kernel_rfl) ⟨_, _, rfl, hA.below, fun _ _ => by kernel_rfl, fun n₀ hB0 hz0 => ?_⟩
      have hW : winF b fs = prsF (bothF F) (plaF fs) := by unfold winF; rw [if_neg hk0, if_neg hk1, if_neg hk2, hF]
      rw [hW]
      exact pairs1_it2 w8 n₀ w6.heap.size w6.heap.size (w6.heap.size + 1) (w.heap.size + 1) A' l c' (plaF fs) A1 F.length c1 F w8.heap.size _ ⟨(y2.below hbf (Nat.le_refl _)), (y1.below hbf (by omega)).more (by omega), (hb9.cell (p := ⟨w6.heap.size, 0, none⟩) (by show _ < w7.heap.size; omega)).trans hcs, (hb9.cell (p := ⟨w6.heap.size + 1, 0, none⟩) (by show _ < w7.heap.size; omega)).trans hcw, (hbf.cell (p := ⟨w.heap.size + 1, 0, none⟩) (by show _ < w6.heap.size; omega)).trans hcf, Nat.le_refl _⟩ (by omega) (by omega) (by omega) (by omega) (by omega) (by omega) ⟨by omega, by omega⟩ ⟨by omega, by omega⟩ ⟨by omega, by omega⟩ (fun b' off' e h0' => by rcases hn2 b' off' e h0' with h | h; exact .inl (by omega); obtain ⟨b2, off2, e2, hb2, -⟩ := x2.2.2 h0'; rw [e] at e2; cases e2; exact .inr ⟨by omega, by omega⟩) (fun b' off' e h0' => .inl (by obtain ⟨b2, off2, e2, hb2, -⟩ := x1.2.2 h0'; rw [e] at e2; cases e2; omega))
end Go.Proofs.YtbahiemjaomdcaaGreat

/- pool: payout. -/
namespace Go.Proofs.YtbahiemjaomdcaaGreat
open Go.RowKit Go.Shelf

theorem checkKey_sp (em : Bool) (p : Int × Int) (w : World) : (Instr.checkKey em 10000 85 (spotV p)).run Tryz.prog w = .ok () w := by kernel_rfl
theorem part_sp0 (p : Int × Int) (w : World) : (part 3 #[.int .i64 p.1, .int .i64 p.2] 0).run Tryz.prog w = .ok (.int .i64 p.1) w := by kernel_rfl
theorem part_sp1 (p : Int × Int) (w : World) : (part 3 #[.int .i64 p.1, .int .i64 p.2] 1).run Tryz.prog w = .ok (.int .i64 p.2) w := by kernel_rfl
theorem eqIntS (d : Nat) (x y : Int) (w : World) : (Op.equalIn (d + 1) 3 (.int .i64 x) (.int .i64 y)).run Tryz.prog w = .ok (decide (x = y)) w := by
  rw [run_equalIn_int w d 3 .i64 .i64 x y Tryz.underlying3]
  rfl
theorem equal_sp (p q : Int × Int) (w : World) : (Op.equal 85 (spotV p) (spotV q)).run Tryz.prog w = .ok (decide (p = q)) w := by
  have hiff : decide (p = q) = (decide (p.1 = q.1) && decide (p.2 = q.2)) := by
    obtain ⟨n, a⟩ := p
    obtain ⟨n', a'⟩ := q
    simp
  rw [hiff]
  unfold Op.equal Op.maxDepth spotV
  rw [show (10000 : Nat) = 9999 + 1 from rfl, run_equalIn_struct w 9999 85 _ _ (by kernel_rfl) (by kernel_rfl)]
  have hfs : (Tryz.prog.fieldsOf 85).toList = [((Tryz.prog.fieldsOf 85)[0]?).getD default, ((Tryz.prog.fieldsOf 85)[1]?).getD default] := by kernel_rfl
  have n1 : (((Tryz.prog.fieldsOf 85)[0]?).getD default).name = "first" := by kernel_rfl
  have t1 : (((Tryz.prog.fieldsOf 85)[0]?).getD default).type = 3 := by kernel_rfl
  have o1 : (((Tryz.prog.fieldsOf 85)[0]?).getD default).offset = 0 := by kernel_rfl
  have n2 : (((Tryz.prog.fieldsOf 85)[1]?).getD default).name = "second" := by kernel_rfl
  have t2 : (((Tryz.prog.fieldsOf 85)[1]?).getD default).type = 3 := by kernel_rfl
  have o2 : (((Tryz.prog.fieldsOf 85)[1]?).getD default).offset = 1 := by kernel_rfl
  generalize ((Tryz.prog.fieldsOf 85)[0]?).getD default = f1 at *
  generalize ((Tryz.prog.fieldsOf 85)[1]?).getD default = f2 at *
  rw [hfs]
  have w1 : f1.name ≠ "_" := by rw [n1]; decide
  have w2 : f2.name ≠ "_" := by rw [n2]; decide
  simp only [Op.eqFields, w1, w2, t1, t2, o1, o2, ne_eq, not_false_eq_true, if_true, Sem.run_bind, part_sp0, Result.andThen_ok, eqIntS]
  cases decide (p.1 = q.1)
  · simp
  simp only [Sem.run_bind, part_sp1, Result.andThen_ok, eqIntS, Bool.not_true, if_false, Bool.true_and, Bool.false_eq_true]
  cases decide (p.2 = q.2) <;> simp
theorem keySpot : KeyT Tryz.prog 85 spotV := ⟨checkKey_sp, equal_sp, fun p => by simp [spotV, Instr.sameBits], by kernel_rfl⟩
def iv (x : Int) : Value := .int .i64 x
theorem mget_cons (x : (Int × Int) × Int) (m : List ((Int × Int) × Int)) (q : Int × Int) : mget 0 (x :: m) q = if q = x.1 then x.2 else mget (0 : Int) m q := by
  unfold mget
  rw [show mfind q (x :: m) = if q = x.1 then some (0, x.2) else (mfind q m).map fun r => (r.1 + 1, r.2) from rfl]
  by_cases h : q = x.1
  · rw [if_pos h, if_pos h]
  · rw [if_neg h, if_neg h]
    cases mfind q m <;> rfl
theorem mget_set (p q : Int × Int) (v : Int) : ∀ m : List ((Int × Int) × Int), mget 0 (mset p v m) q = if q = p then v else mget 0 m q
  | [] => by
    show mget 0 [(p, v)] q = _
    rw [mget_cons]
  | x :: m => by
    have ih := mget_set p q v m
    show mget 0 (if p = x.1 then (x.1, v) :: m else x :: mset p v m) q = _
    by_cases hx : p = x.1
    · rw [if_pos hx, mget_cons, mget_cons, hx]
      by_cases h : q = x.1 <;> simp [h]
    · rw [if_neg hx, mget_cons, mget_cons, ih]
      by_cases h : q = x.1
      · rw [if_pos h, if_pos h, if_neg (by rw [h]; exact fun e => hx e.symm)]
      · rw [if_neg h, if_neg h]
/-- What a bet adds. -/
def stepU (t : Till) (m : List ((Int × Int) × Int)) (x : Bet) : List ((Int × Int) × Int) :=
  if okT t x = true ∧ (mfind (s1T t x, x.second) m).isSome = true then mset (s1T t x, x.second) (mget 0 m (s1T t x, x.second) + x.units) m else m
def unitF (t : Till) (bs : List Bet) (m : List ((Int × Int) × Int)) : List ((Int × Int) × Int) := bs.foldl (stepU t) m
/-- Without those on which nothing is bet. -/
def delF (ws : List (Int × Int)) (m : List ((Int × Int) × Int)) : List ((Int × Int) × Int) := ws.foldl (fun m s => if mget 0 m s = 0 then mdel s m else m) m
theorem delF_step (pre : List (Int × Int)) (x : Int × Int) (m : List ((Int × Int) × Int)) : delF (pre ++ [x]) m = if mget 0 (delF pre m) x = 0 then mdel x (delF pre m) else delF pre m := by
  unfold delF
  rw [List.foldl_append]
  rfl
/-- All winners, with nothing bet on them. -/
def zerF (ws : List (Int × Int)) : List ((Int × Int) × Int) := ws.foldl (fun m s => mset s 0 m) []
theorem zerF_get : ∀ (ws : List (Int × Int)) (m : List ((Int × Int) × Int)) (q : Int × Int), mget 0 m q = 0 → mget 0 (ws.foldl (fun m s => mset s 0 m) m) q = 0
  | [], _, _, h => h
  | s :: ws, m, q, h => zerF_get ws (mset s 0 m) q (by rw [mget_set]; split <;> first | rfl | exact h)
theorem unitF_step (t : Till) {bs : List Bet} {k : Nat} (h : k < bs.length) (m : List ((Int × Int) × Int)) : unitF t (bs.take (k + 1)) m = stepU t (unitF t (bs.take k) m) (bs[k]?.getD noBet) := by
  unfold unitF
  rw [List.take_add_one, List.getElem?_eq_getElem h, List.foldl_append]
  rfl
theorem unitF_bound {t : Till} {ws : List (Int × Int)} {bs : List Bet} (hu : ∀ x ∈ bs, 0 ≤ x.units ∧ x.units ≤ 1000) : ∀ {k : Nat}, k ≤ bs.length → ∀ q, 0 ≤ mget 0 (unitF t (bs.take k) (zerF ws)) q ∧ mget 0 (unitF t (bs.take k) (zerF ws)) q ≤ 1000 * (k : Int)
  | 0, _, q => by
    have : mget 0 (zerF ws) q = 0 := zerF_get ws [] q rfl
    simp [unitF, this]
  | k + 1, h, q => by
    have ih := unitF_bound (t := t) (ws := ws) hu (k := k) (by omega)
    rw [unitF_step t (by omega)]
    have hm : bs[k]?.getD noBet ∈ bs := by rw [List.getElem?_eq_getElem (by omega)]; exact List.getElem_mem _
    have hx := hu _ hm
    unfold stepU
    split
    · rw [mget_set]
      have h1 := ih q
      have h2 := ih (s1T t (bs[k]?.getD noBet), (bs[k]?.getD noBet).second)
      split <;> constructor <;> omega
    · have h1 := ih q
      constructor <;> omega
theorem unitF_no {t : Till} {bs : List Bet} {k : Nat} {m : List ((Int × Int) × Int)} (h : k < bs.length) (hn : okT t (bs[k]?.getD noBet) = false ∨ mfind (s1T t (bs[k]?.getD noBet), (bs[k]?.getD noBet).second) (unitF t (bs.take k) m) = none) : unitF t (bs.take (k + 1)) m = unitF t (bs.take k) m := by
  rw [unitF_step t h]
  unfold stepU
  rw [if_neg]
  rintro ⟨h1, h2⟩
  rcases hn with hn | hn
  · rw [hn] at h1; cases h1
  · rw [hn] at h2; cases h2
theorem unitF_yes {t : Till} {bs : List Bet} {k i : Nat} {v0 : Int} {m : List ((Int × Int) × Int)} (h : k < bs.length) (hok : okT t (bs[k]?.getD noBet) = true) (hf : mfind (s1T t (bs[k]?.getD noBet), (bs[k]?.getD noBet).second) (unitF t (bs.take k) m) = some (i, v0)) :
    unitF t (bs.take (k + 1)) m = mset (s1T t (bs[k]?.getD noBet), (bs[k]?.getD noBet).second) (v0 + (bs[k]?.getD noBet).units) (unitF t (bs.take k) m) := by
  rw [unitF_step t h]
  unfold stepU
  rw [if_pos ⟨hok, by rw [hf]; rfl⟩]
  unfold mget
  rw [hf]
/-- The units of the winners that are backed. -/
def payF (t : Till) (fs : List (List Int)) : List ((Int × Int) × Int) := delF (winF t.b fs) (unitF t t.b.bets (zerF (winF t.b fs)))
theorem payF_eq (t : Till) (fs : List (List Int)) : payF t fs = delF (winF t.b fs) (unitF t t.b.bets (zerF (winF t.b fs))) := rfl
set_option maxRecDepth 20000 in
theorem payout_any (w : World) (B : Nat) (t : Till) (A : Option Addr) (n c : Nat) (A2 : Option Addr) (m c2 : Nat) (A3 : Option Addr) (nf cf : Nat) (fs : List (List Int)) (h : BkAt w B t.b A n c A2 m c2) (hf : FinAt w B A3 nf fs) (hB : B ≤ w.heap.size) (h0 : 0 < nf)
    (h1 : (fs[0]?.getD []).length = 1 → 1 < nf ∧ 0 < (fs[1]?.getD []).length) (hl0 : (fs[0]?.getD []).length ≤ 100) (hl1 : (fs[1]?.getD []).length ≤ 100) (hu : ∀ x ∈ t.b.bets, 0 ≤ x.units ∧ x.units ≤ 1000) (hn : n ≤ 1000) :
    Calls Tryz.prog 35 #[tlV t A n c A2 m c2, .slice A3 nf cf] w fun e w' => ∃ (mb : Nat) (o : Obj), e = .returned (.agg (tlC t A n c A2 m c2 ++ #[.map (some mb)])) ∧ Below w.heap.size w w' ∧ w'.heap[mb]? = some o ∧ MapO spotV iv o (payF t fs) ∧ w.heap.size ≤ mb := by
  have hz0 := hB
  refine enterM 70 Tryz.func35 (by kernel_rfl) fun hA => ?_
  refine runS hA 19 ([.k 3] ++ List.replicate 8 (.k 0)) xn on (by kernel_rfl) fun w1 hA => ?_
  have hz1 : w1.heap.size = w.heap.size + 4 := hA.at_.size.trans (by kernel_rfl)
  refine call hA [] on (winners_any w1 t.b A n c A2 m c2 B A3 nf cf fs (hf.below hA.below hB) (Nat.le_trans hB hA.size) h0 h1 hl0 hl1) (by kernel_rfl) (by rintro e v ⟨gf, lb, rfl, hbw, hW⟩; exact hbw) ?_
  rintro e w2 ⟨gf, lb, rfl, hbw, hW⟩
  refine ⟨_, rfl, fun hA => ?_⟩
  replace hA := hA.allK [⟨w.heap.size, .cells #[.int .i64 t.b.kind, .int .i64 t.b.runners, .slice A n c, .slice A2 m c2, .bool t.b.fav, .int .i64 t.b.car, .int .i64 t.b.dut, .int .i64 t.b.stp, .int .i64 t.heir, .int .i64 t.a.inn, .int .i64 t.a.back, .int .i64 t.a.duty, .int .i64 t.a.paid, .int .i64 t.a.kept, .int .i64 t.a.over] 74 (0, 0)⟩, ⟨w.heap.size + 1, .cells #[.int .i64 0, .int .i64 0, .slice none 0 0, .slice none 0 0, .bool false, .int .i64 0, .int .i64 0, .int .i64 0, .int .i64 0, .int .i64 0, .int .i64 0, .int .i64 0, .int .i64 0, .int .i64 0, .int .i64 0, .map none] 79 (0, 0)⟩, ⟨w.heap.size + 2, .map #[] 0⟩, ⟨w.heap.size + 3, .cells #[.map (some (w.heap.size + 2))] 77 (0, 0)⟩] (by kernel_rfl)
  have hA2 := hA.atK [⟨w.heap.size, .cells #[.int .i64 t.b.kind, .int .i64 t.b.runners, .slice A n c, .slice A2 m c2, .bool t.b.fav, .int .i64 t.b.car, .int .i64 t.b.dut, .int .i64 t.b.stp, .int .i64 t.heir, .int .i64 t.a.inn, .int .i64 t.a.back, .int .i64 t.a.duty, .int .i64 t.a.paid, .int .i64 t.a.kept, .int .i64 t.a.over] 74 (0, 0)⟩, ⟨w.heap.size + 1, .cells #[.int .i64 0, .int .i64 0, .slice none 0 0, .slice none 0 0, .bool false, .int .i64 0, .int .i64 0, .int .i64 0, .int .i64 0, .int .i64 0, .int .i64 0, .int .i64 0, .int .i64 0, .int .i64 0, .int .i64 0, .map none] 79 (0, 0)⟩, ⟨w.heap.size + 2, .map #[] 0⟩, ⟨w.heap.size + 3, .cells #[.map (some (w.heap.size + 2))] 77 (0, 0)⟩] (by kernel_rfl)
  refine runS hA 3 [] xn on (by kernel_rfl) fun w3 hA => ?_
  have hz3 : w3.heap.size = w2.heap.size := hA.at_.size.trans (by kernel_rfl)
  have hb3 : Below w2.heap.size w2 w3 := below_all hA2 (hA.atK [⟨w.heap.size, .cells #[.int .i64 t.b.kind, .int .i64 t.b.runners, .slice A n c, .slice A2 m c2, .bool t.b.fav, .int .i64 t.b.car, .int .i64 t.b.dut, .int .i64 t.b.stp, .int .i64 t.heir, .int .i64 t.a.inn, .int .i64 t.a.back, .int .i64 t.a.duty, .int .i64 t.a.paid, .int .i64 t.a.kept, .int .i64 t.a.over] 74 (0, 0)⟩, ⟨w.heap.size + 1, .cells #[.int .i64 0, .int .i64 0, .slice none 0 0, .slice none 0 0, .bool false, .int .i64 0, .int .i64 0, .int .i64 0, .int .i64 0, .int .i64 0, .int .i64 0, .int .i64 0, .int .i64 0, .int .i64 0, .int .i64 0, .map none] 79 (0, 0)⟩, ⟨w.heap.size + 2, .map #[] 0⟩, ⟨w.heap.size + 3, .cells #[.map (some (w.heap.size + 2))] 77 (0, 0)⟩] (by kernel_rfl)) rfl (Nat.le_of_eq hz3.symm)
  replace hA := hA.bare
  have hzw := hbw.size
  refine rangeS (γ := Obj) (α := Int × Int) (fun o => [⟨w.heap.size, .cells #[.int .i64 t.b.kind, .int .i64 t.b.runners, .slice A n c, .slice A2 m c2, .bool t.b.fav, .int .i64 t.b.car, .int .i64 t.b.dut, .int .i64 t.b.stp, .int .i64 t.heir, .int .i64 t.a.inn, .int .i64 t.a.back, .int .i64 t.a.duty, .int .i64 t.a.paid, .int .i64 t.a.kept, .int .i64 t.a.over] 74 (0, 0)⟩, ⟨w.heap.size + 1, .cells #[.int .i64 0, .int .i64 0, .slice none 0 0, .slice none 0 0, .bool false, .int .i64 0, .int .i64 0, .int .i64 0, .int .i64 0, .int .i64 0, .int .i64 0, .int .i64 0, .int .i64 0, .int .i64 0, .int .i64 0, .map none] 79 (0, 0)⟩, ⟨w.heap.size + 2, o⟩, ⟨w.heap.size + 3, .cells #[.map (some (w.heap.size + 2))] 77 (0, 0)⟩]) (fun _ => []) (fun pre o => MapO spotV iv o (zerF pre)) (fun x z => [(5, .pointer (some ⟨w.heap.size + 3, 0, none⟩)), (6, .pointer (some ⟨z, 0, none⟩))]) (fun x z => [⟨z, .cells #[.int .i64 x.1, .int .i64 x.2] 85 (0, 0)⟩]) [true, true, true, true] (.map #[] 0) 1 hA rfl (by kernel_rfl) hW.1 ((hW.2 w.heap.size hB (by omega)).later hb3) (fun _ => rfl) (Nat.le_refl _) (fun k hk => by have := hk.2; omega) (fun kb hk hc => by simp only [List.nil_append, List.mem_cons, List.not_mem_nil, or_false] at hk; have := hc.1; rcases hk with rfl | rfl | rfl | rfl <;> dsimp only at this <;> omega) (fun _ _ h => nomatch h) (fun o kb hk => by simp only [List.mem_cons, List.not_mem_nil, or_false] at hk; rcases hk with rfl | rfl | rfl | rfl <;> dsimp only <;> omega) (fun x z kb h => by first | (rw [List.mem_singleton.1 h]; exact ⟨rfl, Nat.le_refl _⟩) | nomatch h) MapO.new ?_ ?_ ?_
  · rintro l x o rows W J hJ hA
    refine runS hA 4 [.k 4, .k 4] xn on (by kernel_rfl) fun w4 hA => ?_
    exact rend hJ [true, true, true, true, true] hA (by kernel_rfl)
  · rintro l pre x o z prot W J hrel hlen hsz hJ hA
    refine runS hA 4 [.k 3, .k 4, .k 4] xn on (by kernel_rfl) fun w5 hA => ?_
    refine mapSet (mt := 77) (et := 2) (p := x) (v := (0 : Int)) (b := (w.heap.size + 2)) (o := o) (α := Int) (enc := iv) hA keySpot 2 hrel (by kernel_rfl) fun o1 w6 hm1 hA => ?_
    refine runS hA 2 [] xn on (by kernel_rfl) fun w7 hA => ?_
    exact rend (fr1 := []) (fun a' W' h1 h2 h3 h4 => hJ o1 a' W' (by rw [show zerF (pre ++ [x]) = mset x 0 (zerF pre) by simp [zerF]]; exact hm1) h1 h2 h3 h4) [true, true, true, true, false] hA (by kernel_rfl)
  · rintro D xs o W hS hrel hD hA
    obtain rfl := hS
    refine runS hA 14 [.k 0] xn on (by kernel_rfl) fun w4 hA => ?_
    obtain ⟨ws, hws⟩ : ∃ ws, ws = winF t.b fs := ⟨_, rfl⟩
    rw [← hws] at hrel
    refine loop (γ := Nat × Obj) (fun ⟨k, o⟩ => [(1, .slice A3 nf cf), (2, .pointer (some ⟨w.heap.size, 0, none⟩)), (4, .pointer (some ⟨w.heap.size + 1, 0, none⟩)), (5, .pointer (some ⟨w.heap.size + 3, 0, none⟩)), (25, .slice A n c), (26, .int .i64 n), (27, .int .i64 (k : Int))]) (fun ⟨k, o⟩ => [⟨w.heap.size, .cells #[.int .i64 t.b.kind, .int .i64 t.b.runners, .slice A n c, .slice A2 m c2, .bool t.b.fav, .int .i64 t.b.car, .int .i64 t.b.dut, .int .i64 t.b.stp, .int .i64 t.heir, .int .i64 t.a.inn, .int .i64 t.a.back, .int .i64 t.a.duty, .int .i64 t.a.paid, .int .i64 t.a.kept, .int .i64 t.a.over] 74 (0, 0)⟩, ⟨w.heap.size + 1, .cells #[.int .i64 0, .int .i64 0, .slice none 0 0, .slice none 0 0, .bool false, .int .i64 0, .int .i64 0, .int .i64 0, .int .i64 0, .int .i64 0, .int .i64 0, .int .i64 0, .int .i64 0, .int .i64 0, .int .i64 0, .map none] 79 (0, 0)⟩, ⟨w.heap.size + 2, o⟩, ⟨w.heap.size + 3, .cells #[.map (some (w.heap.size + 2))] 77 (0, 0)⟩, ⟨D, .deferred (some [])⟩]) (fun _ => []) (fun g ⟨k, o⟩ wr => k ≤ n ∧ g = n - k ∧ MapO spotV iv o (unitF t (t.b.bets.take k) (zerF ws))) n ⟨0, o⟩ [true, true, true, true, true] hA (by kernel_rfl) (⟨Nat.zero_le _, rfl, hrel⟩) ?_
    rintro _ ⟨k, o⟩ wr ⟨hk, rfl, hmo⟩ J hJ hA
    by_cases hlt : k < n
    case neg =>
      refine runS hA 9 [.b false] xn (oc (dec_f (show ¬ (((k : Int) : Int) < (n : Int)) by omega)) on) (by kernel_rfl) fun w5 hA => ?_
      have hkn : k = n := by omega
      rw [hkn, List.take_of_length_le (by rw [h.bets.1]; exact Nat.le_refl _)] at hmo
      refine leave hA (by kernel_rfl) fun hA => ?_
      refine runS hA 8 (List.replicate 8 (.k 0)) xn on (by kernel_rfl) fun w6 hA => ?_
      have hzq : w6.heap.size = wr.heap.size := hA.at_.size.trans (by kernel_rfl)
      have hDl : D < w6.heap.size := hA.at_.lt (kb := ⟨D, .deferred (some [])⟩) (List.mem_of_getElem? (i := 4) (by kernel_rfl))
      have h4l : w.heap.size + 4 ≤ w6.heap.size := hA.at_.lt (kb := ⟨w.heap.size + 3, .cells #[.map (some (w.heap.size + 2))] 77 (0, 0)⟩) (List.mem_of_getElem? (i := 3) (by kernel_rfl))
      refine call hA [] on (winners_any w6 t.b A n c A2 m c2 B A3 nf cf fs (hf.below hA.below hB) (Nat.le_trans hB hA.size) h0 h1 hl0 hl1) (by kernel_rfl) (by rintro e v ⟨gf2, lb2, rfl, hbw2, hW2⟩; exact hbw2) ?_
      rintro e w7 ⟨gf2, lb2, rfl, hbw2, hW2⟩
      refine ⟨_, rfl, fun hA => ?_⟩
      replace hA := hA.allK [⟨w.heap.size, .cells #[.int .i64 t.b.kind, .int .i64 t.b.runners, .slice A n c, .slice A2 m c2, .bool t.b.fav, .int .i64 t.b.car, .int .i64 t.b.dut, .int .i64 t.b.stp, .int .i64 t.heir, .int .i64 t.a.inn, .int .i64 t.a.back, .int .i64 t.a.duty, .int .i64 t.a.paid, .int .i64 t.a.kept, .int .i64 t.a.over] 74 (0, 0)⟩, ⟨w.heap.size + 1, .cells #[.int .i64 0, .int .i64 0, .slice none 0 0, .slice none 0 0, .bool false, .int .i64 0, .int .i64 0, .int .i64 0, .int .i64 0, .int .i64 0, .int .i64 0, .int .i64 0, .int .i64 0, .int .i64 0, .int .i64 0, .map none] 79 (0, 0)⟩, ⟨w.heap.size + 2, o⟩, ⟨w.heap.size + 3, .cells #[.map (some (w.heap.size + 2))] 77 (0, 0)⟩, ⟨D, .deferred (some [])⟩] (by kernel_rfl)
      have hA3 := hA.atK [⟨w.heap.size, .cells #[.int .i64 t.b.kind, .int .i64 t.b.runners, .slice A n c, .slice A2 m c2, .bool t.b.fav, .int .i64 t.b.car, .int .i64 t.b.dut, .int .i64 t.b.stp, .int .i64 t.heir, .int .i64 t.a.inn, .int .i64 t.a.back, .int .i64 t.a.duty, .int .i64 t.a.paid, .int .i64 t.a.kept, .int .i64 t.a.over] 74 (0, 0)⟩, ⟨w.heap.size + 1, .cells #[.int .i64 0, .int .i64 0, .slice none 0 0, .slice none 0 0, .bool false, .int .i64 0, .int .i64 0, .int .i64 0, .int .i64 0, .int .i64 0, .int .i64 0, .int .i64 0, .int .i64 0, .int .i64 0, .int .i64 0, .map none] 79 (0, 0)⟩, ⟨w.heap.size + 2, o⟩, ⟨w.heap.size + 3, .cells #[.map (some (w.heap.size + 2))] 77 (0, 0)⟩, ⟨D, .deferred (some [])⟩] (by kernel_rfl)
      refine runS hA 3 [] xn on (by kernel_rfl) fun w8 hA => ?_
      have hz5 : w8.heap.size = w7.heap.size := hA.at_.size.trans (by kernel_rfl)
      have hb5 : Below w7.heap.size w7 w8 := below_all hA3 (hA.atK [⟨w.heap.size, .cells #[.int .i64 t.b.kind, .int .i64 t.b.runners, .slice A n c, .slice A2 m c2, .bool t.b.fav, .int .i64 t.b.car, .int .i64 t.b.dut, .int .i64 t.b.stp, .int .i64 t.heir, .int .i64 t.a.inn, .int .i64 t.a.back, .int .i64 t.a.duty, .int .i64 t.a.paid, .int .i64 t.a.kept, .int .i64 t.a.over] 74 (0, 0)⟩, ⟨w.heap.size + 1, .cells #[.int .i64 0, .int .i64 0, .slice none 0 0, .slice none 0 0, .bool false, .int .i64 0, .int .i64 0, .int .i64 0, .int .i64 0, .int .i64 0, .int .i64 0, .int .i64 0, .int .i64 0, .int .i64 0, .int .i64 0, .map none] 79 (0, 0)⟩, ⟨w.heap.size + 2, o⟩, ⟨w.heap.size + 3, .cells #[.map (some (w.heap.size + 2))] 77 (0, 0)⟩, ⟨D, .deferred (some [])⟩] (by kernel_rfl)) rfl (Nat.le_of_eq hz5.symm)
      replace hA := hA.bare
      have hzw2 := hbw2.size
      have hsz2 : w.heap.size ≤ w6.heap.size := by omega
      refine rangeS (γ := Obj) (α := Int × Int) (fun o => [⟨w.heap.size, .cells #[.int .i64 t.b.kind, .int .i64 t.b.runners, .slice A n c, .slice A2 m c2, .bool t.b.fav, .int .i64 t.b.car, .int .i64 t.b.dut, .int .i64 t.b.stp, .int .i64 t.heir, .int .i64 t.a.inn, .int .i64 t.a.back, .int .i64 t.a.duty, .int .i64 t.a.paid, .int .i64 t.a.kept, .int .i64 t.a.over] 74 (0, 0)⟩, ⟨w.heap.size + 1, .cells #[.int .i64 0, .int .i64 0, .slice none 0 0, .slice none 0 0, .bool false, .int .i64 0, .int .i64 0, .int .i64 0, .int .i64 0, .int .i64 0, .int .i64 0, .int .i64 0, .int .i64 0, .int .i64 0, .int .i64 0, .map none] 79 (0, 0)⟩, ⟨w.heap.size + 2, o⟩, ⟨w.heap.size + 3, .cells #[.map (some (w.heap.size + 2))] 77 (0, 0)⟩, ⟨D, .deferred (some [])⟩]) (fun _ => []) (fun pre o => MapO spotV iv o (delF pre (unitF t t.b.bets (zerF ws)))) (fun x z => [(5, .pointer (some ⟨w.heap.size + 3, 0, none⟩)), (13, .pointer (some ⟨z, 0, none⟩))]) (fun x z => [⟨z, .cells #[.int .i64 x.1, .int .i64 x.2] 85 (0, 0)⟩]) [true, true, true, true, true] o 1 hA rfl (by kernel_rfl) hW2.1 ((hW2.2 w.heap.size hB hsz2).later hb5) (fun _ => rfl) (Nat.le_refl _) (fun k hk => by have := hk.2; omega) (fun kb hk hc => by simp only [List.nil_append, List.mem_cons, List.not_mem_nil, or_false] at hk; have := hc.1; rcases hk with rfl | rfl | rfl | rfl | rfl <;> dsimp only at this <;> omega) (fun _ _ h => nomatch h) (fun o kb hk => by simp only [List.mem_cons, List.not_mem_nil, or_false] at hk; rcases hk with rfl | rfl | rfl | rfl | rfl <;> dsimp only <;> omega) (fun x z kb h => by first | (rw [List.mem_singleton.1 h]; exact ⟨rfl, Nat.le_refl _⟩) | nomatch h) hmo ?_ ?_ ?_
      · rintro l x o rows W J hJ hA
        refine runS hA 4 [.k 5, .k 5] xn on (by kernel_rfl) fun w9 hA => ?_
        exact rend hJ [true, true, true, true, true, true] hA (by kernel_rfl)
      · rintro l pre x o z prot W J hrel hlen hsz hJ hA
        refine runS hA 5 [.k 3, .k 5, .k 5] xn on (by kernel_rfl) fun w10 hA => ?_
        refine mapLook (mt := 77) (et := 2) (p := x) (b := (w.heap.size + 2)) (o := o) (α := Int) (enc := iv) hA keySpot 2 hrel ((0 : Int)) (fun _ => by kernel_rfl) (by kernel_rfl) fun hA => ?_
        by_cases hm0 : mget 0 (delF pre (unitF t t.b.bets (zerF ws))) x = 0
        case pos =>
          refine runS hA 7 [.b true, .k 3, .k 5, .k 5] xn (oc (eq_t hm0) on) (by kernel_rfl) fun w11 hA => ?_
          refine mapDel (mt := 77) (et := 2) (kt' := 85) (ty := 0) (p := x) (b := (w.heap.size + 2)) (o := o) (α := Int) (enc := iv) hA keySpot 2 hrel (by kernel_rfl) fun o1 w12 hm1 hA => ?_
          refine runS hA 2 [] xn on (by kernel_rfl) fun w13 hA => ?_
          exact rend (fr1 := []) (fun a' W' h1 h2 h3 h4 => hJ o1 a' W' (by rw [delF_step, if_pos hm0]; exact hm1) h1 h2 h3 h4) [true, true, true, true, true, false] hA (by kernel_rfl)
        case neg =>
          refine runS hA 6 [.b false] xn (oc (eq_f hm0) on) (by kernel_rfl) fun w11 hA => ?_
          exact rend (fr1 := []) (fun a' W' h1 h2 h3 h4 => hJ o a' W' (by rw [delF_step, if_neg hm0]; exact hrel) h1 h2 h3 h4) [true, true, true, true, true, false] hA (by kernel_rfl)
      · rintro D2 xs2 o W hS hrel hD2 hA
        obtain rfl := hS
        refine runS hA 11 (List.replicate 15 (.k 0) ++ [.k 3] ++ List.replicate 16 (.k 1)) xn on (by kernel_rfl) fun w9 hA => ?_
        refine retM (kn' := [⟨w.heap.size, .cells #[.int .i64 t.b.kind, .int .i64 t.b.runners, .slice A n c, .slice A2 m c2, .bool t.b.fav, .int .i64 t.b.car, .int .i64 t.b.dut, .int .i64 t.b.stp, .int .i64 t.heir, .int .i64 t.a.inn, .int .i64 t.a.back, .int .i64 t.a.duty, .int .i64 t.a.paid, .int .i64 t.a.kept, .int .i64 t.a.over] 74 (0, 0)⟩, ⟨w.heap.size + 1, .cells #[.int .i64 t.b.kind, .int .i64 t.b.runners, .slice A n c, .slice A2 m c2, .bool t.b.fav, .int .i64 t.b.car, .int .i64 t.b.dut, .int .i64 t.b.stp, .int .i64 t.heir, .int .i64 t.a.inn, .int .i64 t.a.back, .int .i64 t.a.duty, .int .i64 t.a.paid, .int .i64 t.a.kept, .int .i64 t.a.over, .map (some (w.heap.size + 2))] 79 (0, 0)⟩, ⟨w.heap.size + 2, o⟩, ⟨w.heap.size + 3, .cells #[.map (some (w.heap.size + 2))] 77 (0, 0)⟩]) (v := .agg #[.int .i64 t.b.kind, .int .i64 t.b.runners, .slice A n c, .slice A2 m c2, .bool t.b.fav, .int .i64 t.b.car, .int .i64 t.b.dut, .int .i64 t.b.stp, .int .i64 t.heir, .int .i64 t.a.inn, .int .i64 t.a.back, .int .i64 t.a.duty, .int .i64 t.a.paid, .int .i64 t.a.kept, .int .i64 t.a.over, .map (some (w.heap.size + 2))]) [5, 4] hA (List.replicate 16 (.k 1)) (by kernel_rfl) (fun w' hA' => ?_)
        exact ⟨_, o, rfl, hA'.below, hA'.ok ⟨w.heap.size + 2, o⟩ (List.mem_of_getElem? (i := 2) rfl), by rw [payF_eq, ← hws]; rw [← hws] at hrel; exact hrel, by omega⟩
    case pos =>
      obtain ⟨b, off, rfl, hb, k0, k1, k2⟩ := h.bets.at hlt
      have hbl : b < w.heap.size := Nat.lt_of_lt_of_le hb hB
      have hmem : (t.b.bets[k]?.getD noBet) ∈ t.b.bets := by rw [List.getElem?_eq_getElem (by rw [h.bets.1]; exact hlt)]; exact List.getElem_mem _
      have hun := hu _ hmem
      have hbd := unitF_bound (t := t) (ws := ws) (k := k) hu (by rw [h.bets.1]; omega) (s1T t (t.b.bets[k]?.getD noBet), (t.b.bets[k]?.getD noBet).second)
      refine runS hA 23 ([.b true, .i, .x (.int .i64 ((t.b.bets[k]?.getD noBet).first)), .x (.int .i64 ((t.b.bets[k]?.getD noBet).second)), .x (.int .i64 ((t.b.bets[k]?.getD noBet).units)), .k 5, .k 5, .k 5] ++ List.replicate 15 (.k 0) ++ [.k 5, .k 5, .k 5]) (xc (a := ⟨b, off + k * 3, none⟩) ⟨hbl, k0⟩ (xc (a := ⟨b, off + k * 3 + 1, none⟩) ⟨hbl, k1⟩ (xc (a := ⟨b, off + k * 3 + 2, none⟩) ⟨hbl, k2⟩ xn))) (oc (dec_t (show (((k : Int) : Int) < (n : Int)) by omega)) (oc (show (0 : Int) ≤ ((k : Int) : Int) ∧ ((k : Int) : Int) < (n : Int) by omega) on)) (by kernel_rfl) fun w5 hA => ?_
      refine callB hA [] on (on_any w5 B t (some ⟨b, off, none⟩) n c A2 m c2 (t.b.bets[k]?.getD noBet) (h.scr.below hA.below hB) (Nat.le_trans hB hA.size)) (by kernel_rfl) fun w6 hb6 hA => ?_
      rcases Bool.eq_false_or_eq_true (okT t (t.b.bets[k]?.getD noBet)) with hok | hok
      ·
        refine revals hA (rc 34 (show .tuple #[.agg #[.int .i64 (s1T t (t.b.bets[k]?.getD noBet)), .int .i64 ((t.b.bets[k]?.getD noBet).second)], .bool (okT t (t.b.bets[k]?.getD noBet))] = .tuple #[.agg #[.int .i64 (s1T t (t.b.bets[k]?.getD noBet)), .int .i64 ((t.b.bets[k]?.getD noBet).second)], .bool true] by rw [hok]) rn) (by kernel_rfl) fun hA => ?_
        refine runS hA 12 [.k 6, .k 6, .k 3, .k 6, .k 6] xn on (by kernel_rfl) fun w7 hA => ?_
        cases hfi : mfind (s1T t (t.b.bets[k]?.getD noBet), (t.b.bets[k]?.getD noBet).second) (unitF t (t.b.bets.take k) (zerF ws)) with
        | none =>
          refine mapLookOk (mt := 77) (et := 2) (p := (s1T t (t.b.bets[k]?.getD noBet), (t.b.bets[k]?.getD noBet).second)) (b := (w.heap.size + 2)) (o := o) (α := Int) (enc := iv) hA keySpot 2 hmo ((0 : Int)) (fun _ => by kernel_rfl) (by kernel_rfl) fun hA => ?_
          refine revals hA (rc 40 (show .tuple #[.int .i64 (mget 0 (unitF t (t.b.bets.take k) (zerF ws)) (s1T t (t.b.bets[k]?.getD noBet), (t.b.bets[k]?.getD noBet).second)), .bool ((mfind (s1T t (t.b.bets[k]?.getD noBet), (t.b.bets[k]?.getD noBet).second) (unitF t (t.b.bets.take k) (zerF ws))).isSome)] = .tuple #[.int .i64 0, .bool false] by unfold mget; rw [hfi]; rfl) rn) (by kernel_rfl) fun hA => ?_
          refine runS hA 23 [] xn on (by kernel_rfl) fun w8 hA => ?_
          refine revals hA (rc 27 (wr64 (x := (k : Int) + 1) (y := ((k + 1 : Nat) : Int)) (by omega) (by omega)) rn) (by kernel_rfl) fun hA => ?_
          exact again hJ (n - (k + 1)) (⟨k + 1, o⟩) [true, true, true, true, true, false, false] hA (by omega) (by kernel_rfl) ⟨by omega, rfl, by rw [unitF_no (h.bets.1 ▸ hlt) (.inr hfi)]; exact hmo⟩
        | some r =>
          obtain ⟨i, v0⟩ := r
          refine mapLookOk (mt := 77) (et := 2) (p := (s1T t (t.b.bets[k]?.getD noBet), (t.b.bets[k]?.getD noBet).second)) (b := (w.heap.size + 2)) (o := o) (α := Int) (enc := iv) hA keySpot 2 hmo ((0 : Int)) (fun _ => by kernel_rfl) (by kernel_rfl) fun hA => ?_
          refine revals hA (rc 40 (show .tuple #[.int .i64 (mget 0 (unitF t (t.b.bets.take k) (zerF ws)) (s1T t (t.b.bets[k]?.getD noBet), (t.b.bets[k]?.getD noBet).second)), .bool ((mfind (s1T t (t.b.bets[k]?.getD noBet), (t.b.bets[k]?.getD noBet).second) (unitF t (t.b.bets.take k) (zerF ws))).isSome)] = .tuple #[.int .i64 v0, .bool true] by unfold mget; rw [hfi]; rfl) rn) (by kernel_rfl) fun hA => ?_
          refine runS hA 16 [] xn on (by kernel_rfl) fun w8 hA => ?_
          have hmg : mget 0 (unitF t (t.b.bets.take k) (zerF ws)) (s1T t (t.b.bets[k]?.getD noBet), (t.b.bets[k]?.getD noBet).second) = v0 := by unfold mget; rw [hfi]
          rw [hmg] at hbd
          refine draw hA [true, true, false, true, true, true, true] [0, 1, 2, 3, 4, 5, 6, 7, 8] (by kernel_rfl) (by kernel_rfl) fun hA => ?_
          refine runS hA 4 [.t 0, .k 2, .t 1, .k 5, .k 5, .t 3, .t 4, .k 4] xn on (by kernel_rfl) fun w9 hA => ?_
          refine two hA 2 6 (by kernel_rfl) (fun hA => ?_) (fun hA => ?_)
          ·
            refine mapLook (mt := 77) (et := 2) (p := (s1T t (t.b.bets[k]?.getD noBet), (t.b.bets[k]?.getD noBet).second)) (b := (w.heap.size + 2)) (o := o) (α := Int) (enc := iv) hA keySpot 2 hmo ((0 : Int)) (fun _ => by kernel_rfl) (by kernel_rfl) fun hA => ?_
            refine revals hA (rc 49 (show .int .i64 (mget 0 (unitF t (t.b.bets.take k) (zerF ws)) (s1T t (t.b.bets[k]?.getD noBet), (t.b.bets[k]?.getD noBet).second)) = .int .i64 v0 by rw [hmg]) rn) (by kernel_rfl) fun hA => ?_
            refine runS hA 1 [.t 5] xn on (by kernel_rfl) fun w10 hA => ?_
            refine revals hA (rc 52 (wr64 (x := v0 + (t.b.bets[k]?.getD noBet).units) (y := v0 + (t.b.bets[k]?.getD noBet).units) (by omega) rfl) rn) (by kernel_rfl) fun hA => ?_
            refine mapEnt (mt := 77) (et := 2) (p := (s1T t (t.b.bets[k]?.getD noBet), (t.b.bets[k]?.getD noBet).second)) (b := (w.heap.size + 2)) (o := o) (α := Int) (enc := iv) hA keySpot 2 hmo hfi (by kernel_rfl) (fun _ => by kernel_rfl) fun o1 st w11 hm1 hst hA => ?_
            refine runS hA 1 [.t 7] xn on (by kernel_rfl) fun w12 hA => ?_
            refine entStore (mt := 77) (p := (s1T t (t.b.bets[k]?.getD noBet), (t.b.bets[k]?.getD noBet).second)) (st := st) (v := (v0 + (t.b.bets[k]?.getD noBet).units)) (b := (w.heap.size + 2)) (o := o1) (α := Int) (enc := iv) (ek := spotV) hA 2 hst (by kernel_rfl) (fun _ => by kernel_rfl) fun o2 w13 hm2 hA => ?_
            refine runS hA 7 [.b true] xn on (by kernel_rfl) fun w14 hA => ?_
            refine revals hA (rc 27 (wr64 (x := (k : Int) + 1) (y := ((k + 1 : Nat) : Int)) (by omega) (by omega)) rn) (by kernel_rfl) fun hA => ?_
            exact again hJ (n - (k + 1)) (⟨k + 1, o2⟩) [true, true, true, true, true, false, false] hA (by omega) (by kernel_rfl) ⟨by omega, rfl, by rw [unitF_yes (h.bets.1 ▸ hlt) hok hfi]; exact hm2⟩
          ·
            refine mapEnt (mt := 77) (et := 2) (p := (s1T t (t.b.bets[k]?.getD noBet), (t.b.bets[k]?.getD noBet).second)) (b := (w.heap.size + 2)) (o := o) (α := Int) (enc := iv) hA keySpot 2 hmo hfi (by kernel_rfl) (fun _ => by kernel_rfl) fun o1 st w10 hm1 hst hA => ?_
            refine runS hA 1 [.t 7] xn on (by kernel_rfl) fun w11 hA => ?_
            refine mapLook (mt := 77) (et := 2) (p := (s1T t (t.b.bets[k]?.getD noBet), (t.b.bets[k]?.getD noBet).second)) (b := (w.heap.size + 2)) (o := o1) (α := Int) (enc := iv) hA keySpot 2 hm1 ((0 : Int)) (fun _ => by kernel_rfl) (by kernel_rfl) fun hA => ?_
            refine revals hA (rc 49 (show .int .i64 (mget 0 (unitF t (t.b.bets.take k) (zerF ws)) (s1T t (t.b.bets[k]?.getD noBet), (t.b.bets[k]?.getD noBet).second)) = .int .i64 v0 by rw [hmg]) rn) (by kernel_rfl) fun hA => ?_
            refine runS hA 1 [.t 5] xn on (by kernel_rfl) fun w12 hA => ?_
            refine revals hA (rc 52 (wr64 (x := v0 + (t.b.bets[k]?.getD noBet).units) (y := v0 + (t.b.bets[k]?.getD noBet).units) (by omega) rfl) rn) (by kernel_rfl) fun hA => ?_
            refine entStore (mt := 77) (p := (s1T t (t.b.bets[k]?.getD noBet), (t.b.bets[k]?.getD noBet).second)) (st := st) (v := (v0 + (t.b.bets[k]?.getD noBet).units)) (b := (w.heap.size + 2)) (o := o1) (α := Int) (enc := iv) (ek := spotV) hA 2 hst (by kernel_rfl) (fun _ => by kernel_rfl) fun o2 w13 hm2 hA => ?_
            refine runS hA 7 [.b true] xn on (by kernel_rfl) fun w14 hA => ?_
            refine revals hA (rc 27 (wr64 (x := (k : Int) + 1) (y := ((k + 1 : Nat) : Int)) (by omega) (by omega)) rn) (by kernel_rfl) fun hA => ?_
            exact again hJ (n - (k + 1)) (⟨k + 1, o2⟩) [true, true, true, true, true, false, false] hA (by omega) (by kernel_rfl) ⟨by omega, rfl, by rw [unitF_yes (h.bets.1 ▸ hlt) hok hfi]; exact hm2⟩
      ·
        refine revals hA (rc 34 (show .tuple #[.agg #[.int .i64 (s1T t (t.b.bets[k]?.getD noBet)), .int .i64 ((t.b.bets[k]?.getD noBet).second)], .bool (okT t (t.b.bets[k]?.getD noBet))] = .tuple #[.agg #[.int .i64 (s1T t (t.b.bets[k]?.getD noBet)), .int .i64 ((t.b.bets[k]?.getD noBet).second)], .bool false] by rw [hok]) rn) (by kernel_rfl) fun hA => ?_
        refine runS hA 12 [.k 6, .k 6, .k 3, .k 6, .k 6] xn on (by kernel_rfl) fun w7 hA => ?_
        cases hfi : mfind (s1T t (t.b.bets[k]?.getD noBet), (t.b.bets[k]?.getD noBet).second) (unitF t (t.b.bets.take k) (zerF ws)) with
        | none =>
          refine mapLookOk (mt := 77) (et := 2) (p := (s1T t (t.b.bets[k]?.getD noBet), (t.b.bets[k]?.getD noBet).second)) (b := (w.heap.size + 2)) (o := o) (α := Int) (enc := iv) hA keySpot 2 hmo ((0 : Int)) (fun _ => by kernel_rfl) (by kernel_rfl) fun hA => ?_
          refine revals hA (rc 40 (show .tuple #[.int .i64 (mget 0 (unitF t (t.b.bets.take k) (zerF ws)) (s1T t (t.b.bets[k]?.getD noBet), (t.b.bets[k]?.getD noBet).second)), .bool ((mfind (s1T t (t.b.bets[k]?.getD noBet), (t.b.bets[k]?.getD noBet).second) (unitF t (t.b.bets.take k) (zerF ws))).isSome)] = .tuple #[.int .i64 0, .bool false] by unfold mget; rw [hfi]; rfl) rn) (by kernel_rfl) fun hA => ?_
          refine runS hA 23 [] xn on (by kernel_rfl) fun w8 hA => ?_
          refine revals hA (rc 27 (wr64 (x := (k : Int) + 1) (y := ((k + 1 : Nat) : Int)) (by omega) (by omega)) rn) (by kernel_rfl) fun hA => ?_
          exact again hJ (n - (k + 1)) (⟨k + 1, o⟩) [true, true, true, true, true, false, false] hA (by omega) (by kernel_rfl) ⟨by omega, rfl, by rw [unitF_no (h.bets.1 ▸ hlt) (.inl hok)]; exact hmo⟩
        | some r =>
          obtain ⟨i, v0⟩ := r
          refine mapLookOk (mt := 77) (et := 2) (p := (s1T t (t.b.bets[k]?.getD noBet), (t.b.bets[k]?.getD noBet).second)) (b := (w.heap.size + 2)) (o := o) (α := Int) (enc := iv) hA keySpot 2 hmo ((0 : Int)) (fun _ => by kernel_rfl) (by kernel_rfl) fun hA => ?_
          refine revals hA (rc 40 (show .tuple #[.int .i64 (mget 0 (unitF t (t.b.bets.take k) (zerF ws)) (s1T t (t.b.bets[k]?.getD noBet), (t.b.bets[k]?.getD noBet).second)), .bool ((mfind (s1T t (t.b.bets[k]?.getD noBet), (t.b.bets[k]?.getD noBet).second) (unitF t (t.b.bets.take k) (zerF ws))).isSome)] = .tuple #[.int .i64 v0, .bool true] by unfold mget; rw [hfi]; rfl) rn) (by kernel_rfl) fun hA => ?_
          refine runS hA 23 [] xn on (by kernel_rfl) fun w8 hA => ?_
          refine revals hA (rc 27 (wr64 (x := (k : Int) + 1) (y := ((k + 1 : Nat) : Int)) (by omega) (by omega)) rn) (by kernel_rfl) fun hA => ?_
          exact again hJ (n - (k + 1)) (⟨k + 1, o⟩) [true, true, true, true, true, false, false] hA (by omega) (by kernel_rfl) ⟨by omega, rfl, by rw [unitF_no (h.bets.1 ▸ hlt) (.inl hok)]; exact hmo⟩
end Go.Proofs.YtbahiemjaomdcaaGreat

/- pool: dividend, pay. -/
namespace Go.Proofs.YtbahiemjaomdcaaGreat
open Go.RowKit Go.Shelf

/-- The dividend of a spot. -/
def divF (t : Till) (m : List ((Int × Int) × Int)) (s : Int × Int) : Int := match mfind s m with
  | none => 0
  | some r => ((netF t.a).tdiv (m.length : Int)).tdiv (r.2 * t.b.stp) * t.b.stp
/-- What holds of the units that are backed. -/
def PayOk (m : List ((Int × Int) × Int)) : Prop := (∀ s i u, mfind s m = some (i, u) → 1 ≤ u ∧ u ≤ 1000000) ∧ m.length ≤ 1000
theorem tdiv_bound {x y : Int} (_ : 0 < y) {K : Int} (h : -K ≤ x ∧ x ≤ K) (hK : 0 ≤ K) : -K ≤ x.tdiv y ∧ x.tdiv y ≤ K := by
  have h1 : (x.tdiv y).natAbs ≤ x.natAbs := by rw [Int.natAbs_tdiv]; exact Nat.div_le_self _ _
  omega
set_option maxRecDepth 20000 in
theorem dividend_any (w : World) (t : Till) (A : Option Addr) (n c : Nat) (A2 : Option Addr) (m c2 : Nat) (mb : Nat) (o : Obj) (m2 : List ((Int × Int) × Int)) (hmb : w.heap[mb]? = some o) (hmo : MapO spotV iv o m2) (hml : mb < w.heap.size) (hp : PayOk m2) (ha : AccOk t.a) (hst : 1 ≤ t.b.stp ∧ t.b.stp ≤ 100) (s : Int × Int) :
    Calls Tryz.prog 37 #[Value.agg (tlC t A n c A2 m c2 ++ #[.map (some mb)]), spotV s] w fun e w' => e = .returned (.int .i64 (divF t m2 s)) ∧ Below w.heap.size w w' := by
  obtain ⟨hp1, hp2⟩ := hp
  obtain ⟨ha1, ha2, ha3⟩ := ha
  refine enter 39 Tryz.func37 (by kernel_rfl) fun hA => ?_
  refine runS hA 12 [.k 0, .k 1, .k 1] xn on (by kernel_rfl) fun w1 hA => ?_
  cases hfi : mfind s m2 with
  | none =>
    refine mapLookOkW (mt := 77) (et := 2) (p := s) (b := mb) (α := Int) (enc := iv) hA keySpot ((hmo.at ((hA.below.block mb hml).trans hmb))) ((0 : Int)) (fun _ => by kernel_rfl) (by kernel_rfl) fun hA => ?_
    refine revals hA (rc 12 (show .tuple #[.int .i64 (mget 0 m2 s), .bool ((mfind s m2).isSome)] = .tuple #[.int .i64 0, .bool false] by unfold mget; rw [hfi]; rfl) rn) (by kernel_rfl) fun hA => ?_
    refine runS hA 22 [] xn on (by kernel_rfl) fun w2 hA => ?_
    exact ret (v := .int .i64 0) hA [] (by kernel_rfl) ⟨by unfold divF; rw [hfi], hA.below⟩
  | some r =>
    obtain ⟨i, u⟩ := r
    obtain ⟨hu1, hu2⟩ := hp1 s i u hfi
    refine mapLookOkW (mt := 77) (et := 2) (p := s) (b := mb) (α := Int) (enc := iv) hA keySpot ((hmo.at ((hA.below.block mb hml).trans hmb))) ((0 : Int)) (fun _ => by kernel_rfl) (by kernel_rfl) fun hA => ?_
    refine revals hA (rc 12 (show .tuple #[.int .i64 (mget 0 m2 s), .bool ((mfind s m2).isSome)] = .tuple #[.int .i64 u, .bool true] by unfold mget; rw [hfi]; rfl) rn) (by kernel_rfl) fun hA => ?_
    refine runS hA 18 [] xn on (by kernel_rfl) fun w2 hA => ?_
    refine draw hA [true, true] [0, 1, 2, 3, 4] (by kernel_rfl) (by kernel_rfl) fun hA => ?_
    refine runS hA 4 ([.t 0, .t 1] ++ List.replicate 15 (.k 0) ++ [.t 3, .t 4, .k 0]) xn on (by kernel_rfl) fun w3 hA => ?_
    refine callB hA [] on (net_any w3 t A n c A2 m c2 ⟨ha1, ha2, ha3⟩) (by kernel_rfl) fun w4 hb4 hA => ?_
    have hnet : -3000000000000 ≤ netF t.a ∧ netF t.a ≤ 3000000000000 := by unfold netF; omega
    refine runS hA 1 [.b false] xn on (by kernel_rfl) fun w5 hA => ?_
    refine mapLenW (mt := 77) (et := 2) (ty := 3) (b := mb) (α := Int) (enc := iv) hA keySpot ((hmo.at ((hA.below.block mb hml).trans hmb))) (by kernel_rfl) fun hA => ?_
    have hlen : 0 < m2.length := by have := (mfind_at hfi).1; omega
    refine runS hA 5 [.z] xn (oc (show (m2.length : Int) ≠ (0 : Int) by omega) on) (by kernel_rfl) fun w6 hA => ?_
    have hsh := tdiv_bound (x := netF t.a) (y := (m2.length : Int)) (by omega) hnet (by omega)
    obtain ⟨sh, hsh0⟩ : ∃ sh, sh = (netF t.a).tdiv (m2.length : Int) := ⟨_, rfl⟩
    rw [← hsh0] at hsh
    refine revals hA (rc 7 (wr64 (x := (netF t.a).tdiv (m2.length : Int)) (y := sh) (by rw [← hsh0]; omega) hsh0.symm) rn) (by kernel_rfl) fun hA => ?_
    have hus : 1 ≤ u * t.b.stp ∧ u * t.b.stp ≤ 100000000 := ⟨by have := Int.mul_le_mul hu1 hst.1 (by omega) (by omega); omega, by have := Int.mul_le_mul hu2 hst.2 (by omega) (by omega); omega⟩
    have hq := tdiv_bound (x := sh) (y := u * t.b.stp) (by omega) hsh (by omega)
    have hw1 : IntKind.i64.wrap (u * t.b.stp) = u * t.b.stp := by rw [IntKind.wrap_i64]; omega
    have hw2 : IntKind.i64.wrap (sh.tdiv (u * t.b.stp)) = sh.tdiv (u * t.b.stp) := by rw [IntKind.wrap_i64]; omega
    have hq2 : -300000000000000 ≤ sh.tdiv (u * t.b.stp) * t.b.stp ∧ sh.tdiv (u * t.b.stp) * t.b.stp ≤ 300000000000000 := by
      have h1 := Int.mul_le_mul_of_nonneg_right hq.1 (show 0 ≤ t.b.stp by omega)
      have h2 := Int.mul_le_mul_of_nonneg_right hq.2 (show 0 ≤ t.b.stp by omega)
      constructor <;> omega
    have hw3 : IntKind.i64.wrap (sh.tdiv (u * t.b.stp) * t.b.stp) = sh.tdiv (u * t.b.stp) * t.b.stp := by rw [IntKind.wrap_i64]; omega
    refine draw hA [true, true] [0, 1, 2, 3, 4, 5, 6, 7, 8, 9, 10, 11, 12, 13, 14, 15] (by kernel_rfl) (by kernel_rfl) fun hA => ?_
    refine runS hA 19 [.t 0, .t 1, .t 2, .t 3, .t 4, .t 5, .t 6, .k 0, .t 7, .t 8, .z, .t 9, .t 10, .t 11, .t 12, .t 13, .k 0, .t 14, .t 15, .b true] xn (oc (show (IntKind.i64.wrap (u * t.b.stp)) ≠ (0 : Int) by (rw [hw1]; omega)) on) (by kernel_rfl) fun w7 hA => ?_
    exact ret (v := .int .i64 (IntKind.i64.wrap ((IntKind.i64.wrap (sh.tdiv (IntKind.i64.wrap (u * t.b.stp)))) * t.b.stp))) hA [] (by kernel_rfl) ⟨by unfold divF; rw [hfi, hw1, hw2, hw3, hsh0], hA.below⟩
end Go.Proofs.YtbahiemjaomdcaaGreat

/- pool: paysNothing, pay. -/
namespace Go.Proofs.YtbahiemjaomdcaaGreat
open Go.RowKit Go.Shelf

theorem on_on (w : World) (B : Nat) (t : Till) (A : Option Addr) (n c : Nat) (A2 : Option Addr) (m c2 : Nat) (h : IntsAt w B A2 m t.b.scr) (hB : B ≤ w.heap.size) :
    OnAt 60 (tlV t A n c A2 m c2) w t.b.bets (s1T t) (fun x => x.second) (okT t) :=
  ⟨enters_of Tryz.func60 (by kernel_rfl) rfl, fun W hb x _ => on_any W B t A n c A2 m c2 x (h.below hb hB) (Nat.le_trans hB hb.size)⟩
theorem part_tA (t : Nat → Int) (w : World) : ∀ i, i < 8 → (part 2 (tA t) (i * Tryz.prog.cellsOf 2)).run Tryz.prog w = .ok (.int .i64 (t i)) w
  | 0, _ => by kernel_rfl
  | 1, _ => by kernel_rfl
  | 2, _ => by kernel_rfl
  | 3, _ => by kernel_rfl
  | 4, _ => by kernel_rfl
  | 5, _ => by kernel_rfl
  | 6, _ => by kernel_rfl
  | 7, _ => by kernel_rfl
  | i + 8, h => by omega
theorem eqInt64 (d : Nat) (x y : Int) (w : World) : (Op.equalIn (d + 1) 2 (.int .i64 x) (.int .i64 y)).run Tryz.prog w = .ok (decide (x = y)) w := by
  rw [run_equalIn_int w d 2 .i64 .i64 x y Tryz.underlying2]
  rfl
theorem items_tA (d : Nat) (t u : Nat → Int) (w : World) : ∀ is : List Nat, (∀ i ∈ is, i < 8) → (Op.eqItems (d + 1) 2 (Tryz.prog.cellsOf 2) (tA t) (tA u) is).run Tryz.prog w = .ok (is.all fun i => decide (t i = u i)) w
  | [], _ => by simp [Op.eqItems]
  | i :: is, h => by
    have ih := items_tA d t u w is fun j hj => h j (List.mem_cons_of_mem _ hj)
    have hi := h i List.mem_cons_self
    simp only [Op.eqItems, Sem.run_bind, part_tA t w i hi, part_tA u w i hi, Result.andThen_ok, eqInt64]
    cases hd : decide (t i = u i)
    · simp [hd]
    · simp only [Bool.not_true, Bool.false_eq_true, if_false, ih]
      simp [hd]
/-- Nothing is bet. -/
def noneF (t : Nat → Int) : Bool := (List.range 8).all fun i => decide (t i = 0)
theorem equal_tA (t : Nat → Int) (w : World) : (Op.equal 120 (.agg (tA t)) (.agg (tA fun _ => 0))).run Tryz.prog w = .ok (noneF t) w := by
  unfold Op.equal Op.maxDepth
  obtain ⟨i, hi⟩ : ∃ i, Tryz.prog.info? 2 = some i := Option.isSome_iff_exists.1 (by kernel_rfl)
  rw [show (10000 : Nat) = 9999 + 1 from rfl, run_equalIn_array (P := Tryz.prog) w 9999 (t := 120) (e := 2) (n := 8) _ _ (by kernel_rfl) hi]
  exact items_tA 9998 t (fun _ => 0) w (List.range 8) (fun i hi => List.mem_range.1 hi)
theorem sem_seq {α : Type} {P : Program} {w : World} {s1 : Sem Unit} {s2 : Sem α} {v : α} (h1 : s1.run P w = .ok () w) (h2 : s2.run P w = .ok v w) : (Sem.bind s1 fun _ => s2).run P w = .ok v w := by
  rw [Sem.run_bind', h1]
  exact h2
theorem sem_val {P : Program} {w : World} {s : Sem Value} {v : Value} (h : s.run P w = .ok v w) : (s.bind fun v => Sem.pure (Next.value v)).run P w = .ok (.value v) w := by
  rw [Sem.run_bind', h]
  rfl
noncomputable def eqSem (t : TypeId) (xo yo : Operand) (x y : Value) : Sem Next := (Sem.bind (eqGuard .eql t xo yo x y) fun _ => binOp .eql t x y).bind fun v => .pure (.value v)
theorem run_eqTA (t : Nat → Int) (xo yo : Operand) (w : World) : (eqSem 120 xo yo (.agg (tA t)) (.agg (tA fun _ => 0))).run Tryz.prog w = .ok (.value (.bool (noneF t))) w := by
  unfold eqSem
  have h1 : (eqGuard .eql 120 xo yo (.agg (tA t)) (.agg (tA fun _ => 0))).run Tryz.prog w = .ok () w := by kernel_rfl
  have h2 : (binOp .eql 120 (.agg (tA t)) (.agg (tA fun _ => 0))).run Tryz.prog w = .ok (.bool (noneF t)) w := by
    have e : binOp .eql 120 (.agg (tA t)) (.agg (tA fun _ => 0)) = Sem.bind (Op.equal 120 (.agg (tA t)) (.agg (tA fun _ => 0))) fun r => Sem.pure (.bool r) := by kernel_rfl
    rw [e, Sem.run_bind', equal_tA]
    rfl
  exact sem_val (sem_seq h1 h2)
set_option maxRecDepth 20000 in
theorem paysNothing_any (w : World) (B : Nat) (t : Till) (A : Option Addr) (n c : Nat) (A2 : Option Addr) (m c2 : Nat) (h : BkAt w B t.b A n c A2 m c2) (hB : B ≤ w.heap.size) (hs : ∀ x ∈ t.b.bets, okT t x = true → 0 ≤ s1T t x ∧ s1T t x < 8) (hu : ∀ x ∈ t.b.bets, 0 ≤ x.units ∧ x.units ≤ 1000) (hn : t.b.bets.length ≤ 1000) :
    Calls Tryz.prog 47 #[tlV t A n c A2 m c2] w fun e w' => e = .returned (.bool (noneF (tallyF (okT t) (s1T t) t.b.bets))) ∧ Below w.heap.size w w' := by
  refine enter 10 Tryz.func47 (by kernel_rfl) fun hA => ?_
  refine runS hA 12 (List.replicate 23 (.k 0)) xn on (by kernel_rfl) fun w1 hA => ?_
  refine callB hA [] on (count_any w1 B t.b A n c A2 m c2 _ _ (s1T t) (fun x => x.second) (okT t) (h.bets.below hA.below hB) (Nat.le_trans hB hA.size) (on_on w1 B t A n c A2 m c2 (h.scr.below hA.below hB) (Nat.le_trans hB hA.size)) hs hu hn) (by kernel_rfl) fun w2 hb2 hA => ?_
  refine runS hA 1 [] xn on (by kernel_rfl) fun w3 hA => ?_
  refine opv hA [] on (s := eqSem 120 (.tmp 7) (.tmp 8) (.agg (tA (tallyF (okT t) (s1T t) t.b.bets))) (.agg (tA fun _ => 0))) (by kernel_rfl) (run_eqTA _ _ _ _) fun hA => ?_
  refine runS hA 4 [] xn on (by kernel_rfl) fun w4 hA => ?_
  exact ret (v := .bool (noneF (tallyF (okT t) (s1T t) t.b.bets))) hA [] (by kernel_rfl) ⟨rfl, hA.below⟩
/-- What is paid for a bet. -/
def payB (t : Till) (m : List ((Int × Int) × Int)) (x : Bet) : Int := if okT t x = true then divF t m (s1T t x, x.second) * x.units else 100 * x.units
theorem divF_bound {t : Till} {m : List ((Int × Int) × Int)} (hp : PayOk m) (ha : AccOk t.a) (hst : 1 ≤ t.b.stp ∧ t.b.stp ≤ 100) (s : Int × Int) : -300000000000000 ≤ divF t m s ∧ divF t m s ≤ 300000000000000 := by
  obtain ⟨hp1, hp2⟩ := hp
  obtain ⟨ha1, ha2, ha3⟩ := ha
  unfold divF
  cases hfi : mfind s m with
  | none => simp
  | some r =>
    obtain ⟨i, u⟩ := r
    obtain ⟨hu1, hu2⟩ := hp1 s i u hfi
    have hnet : -3000000000000 ≤ netF t.a ∧ netF t.a ≤ 3000000000000 := by unfold netF; omega
    have hlen : 0 < m.length := by have := (mfind_at hfi).1; omega
    have hsh := tdiv_bound (x := netF t.a) (y := (m.length : Int)) (by omega) hnet (by omega)
    have hus : 1 ≤ u * t.b.stp := by have := Int.mul_le_mul hu1 hst.1 (by omega) (by omega); omega
    have hq := tdiv_bound (x := (netF t.a).tdiv (m.length : Int)) (y := u * t.b.stp) (by omega) hsh (by omega)
    have h1 := Int.mul_le_mul_of_nonneg_right hq.1 (show 0 ≤ t.b.stp by omega)
    have h2 := Int.mul_le_mul_of_nonneg_right hq.2 (show 0 ≤ t.b.stp by omega)
    simp only
    constructor <;> omega
set_option maxRecDepth 20000 in
theorem pay_any (w : World) (B : Nat) (t : Till) (A : Option Addr) (n c : Nat) (A2 : Option Addr) (m c2 : Nat) (mb : Nat) (o : Obj) (m2 : List ((Int × Int) × Int)) (hmb : w.heap[mb]? = some o) (hmo : MapO spotV iv o m2) (hml : mb < w.heap.size) (hp : PayOk m2) (ha : AccOk t.a) (hst : 1 ≤ t.b.stp ∧ t.b.stp ≤ 100) (x : Bet) (hx : IntsAt w B A2 m t.b.scr) (hB : B ≤ w.heap.size) (hu : 0 ≤ x.units ∧ x.units ≤ 1000) :
    Calls Tryz.prog 43 #[Value.agg (tlC t A n c A2 m c2 ++ #[.map (some mb)]), betV x] w fun e w' => e = .returned (.int .i64 (payB t m2 x)) ∧ Below w.heap.size w w' := by
  refine enter 25 Tryz.func43 (by kernel_rfl) fun hA => ?_
  refine runS hA 12 (List.replicate 15 (.k 0) ++ [.k 1, .k 1, .k 1]) xn on (by kernel_rfl) fun w1 hA => ?_
  refine callB hA [] on (on_any w1 B t A n c A2 m c2 x (hx.below hA.below hB) (Nat.le_trans hB hA.size)) (by kernel_rfl) fun w2 hb2 hA => ?_
  rcases Bool.eq_false_or_eq_true (okT t x) with hok | hok
  ·
    refine revals hA (rc 11 (show .tuple #[.agg #[.int .i64 (s1T t x), .int .i64 x.second], .bool (okT t x)] = .tuple #[.agg #[.int .i64 (s1T t x), .int .i64 x.second], .bool true] by rw [hok]) rn) (by kernel_rfl) fun hA => ?_
    refine runS hA 19 [.k 2, .k 2] xn on (by kernel_rfl) fun w3 hA => ?_
    refine draw hA [true, true, true] [0, 1, 2, 3, 4, 5, 6] (by kernel_rfl) (by kernel_rfl) fun hA => ?_
    refine runS hA 4 ([.t 0] ++ List.replicate 16 (.k 0) ++ [.t 1, .k 2, .k 2, .t 3, .t 4, .k 1]) xn on (by kernel_rfl) fun w4 hA => ?_
    refine callB hA [] on (dividend_any w4 t A n c A2 m c2 mb o m2 ((hA.below.block mb hml).trans hmb) hmo (Nat.lt_of_lt_of_le hml hA.size) hp ha hst (s1T t x, x.second)) (by kernel_rfl) fun w5 hb5 hA => ?_
    refine runS hA 5 [.t 5, .t 6, .b true] xn on (by kernel_rfl) fun w6 hA => ?_
    have hd := divF_bound hp ha hst (s1T t x, x.second)
    have h1 := Int.mul_le_mul_of_nonneg_right hd.1 hu.1
    have h2 := Int.mul_le_mul_of_nonneg_right hd.2 hu.1
    exact ret (v := .int .i64 (IntKind.i64.wrap ((divF t m2 (s1T t x, x.second)) * x.units))) hA [] (by kernel_rfl) ⟨by rw [show IntKind.i64.wrap (divF t m2 (s1T t x, x.second) * x.units) = payB t m2 x by unfold payB; rw [if_pos hok, IntKind.wrap_i64]; omega], hA.below⟩
  ·
    refine revals hA (rc 11 (show .tuple #[.agg #[.int .i64 (s1T t x), .int .i64 x.second], .bool (okT t x)] = .tuple #[.agg #[.int .i64 (s1T t x), .int .i64 x.second], .bool false] by rw [hok]) rn) (by kernel_rfl) fun hA => ?_
    refine runS hA 26 [.k 2, .k 2, .k 1] xn on (by kernel_rfl) fun w3 hA => ?_
    exact ret (v := .int .i64 (IntKind.i64.wrap (100 * x.units))) hA [] (by kernel_rfl) ⟨by rw [show IntKind.i64.wrap (100 * x.units) = payB t m2 x by unfold payB; rw [if_neg (by rw [hok]; decide), IntKind.wrap_i64]; omega], hA.below⟩
end Go.Proofs.YtbahiemjaomdcaaGreat

/- pool: account. -/
namespace Go.Proofs.YtbahiemjaomdcaaGreat
open Go.RowKit Go.Shelf

theorem tdiv_mul_bound {x y : Int} (_ : 0 < y) {K : Int} (h : -K ≤ x ∧ x ≤ K) (hK : 0 ≤ K) : -K ≤ x.tdiv y * y ∧ x.tdiv y * y ≤ K := by
  have h1 : (x.tdiv y * y).natAbs ≤ x.natAbs := by
    rw [Int.natAbs_mul, Int.natAbs_tdiv]
    exact Nat.div_mul_le_self _ _
  omega
theorem divU_bound {t : Till} {m : List ((Int × Int) × Int)} (hp : PayOk m) (ha : AccOk t.a) (hst : 1 ≤ t.b.stp ∧ t.b.stp ≤ 100) {s : Int × Int} {i : Nat} {u : Int} (hfi : mfind s m = some (i, u)) : -3000000000000 ≤ divF t m s * u ∧ divF t m s * u ≤ 3000000000000 := by
  obtain ⟨hp1, hp2⟩ := hp
  obtain ⟨ha1, ha2, ha3⟩ := ha
  obtain ⟨hu1, hu2⟩ := hp1 s i u hfi
  have hnet : -3000000000000 ≤ netF t.a ∧ netF t.a ≤ 3000000000000 := by unfold netF; omega
  have hlen : 0 < m.length := by have := (mfind_at hfi).1; omega
  have hsh := tdiv_bound (x := netF t.a) (y := (m.length : Int)) (by omega) hnet (by omega)
  have hus : 1 ≤ u * t.b.stp := by have := Int.mul_le_mul hu1 hst.1 (by omega) (by omega); omega
  have hq := tdiv_mul_bound (x := (netF t.a).tdiv (m.length : Int)) (y := u * t.b.stp) (by omega) hsh (by omega)
  unfold divF
  rw [hfi]
  simp only
  rw [Int.mul_assoc, Int.mul_comm t.b.stp u]
  exact hq
/-- What is paid for the entries at these places. -/
def sumI (t : Till) (m : List ((Int × Int) × Int)) : List Nat → Int
  | [] => 0
  | i :: is => sumI t m is + (match m[i]? with | some e => divF t m e.1 * e.2 | none => 0)
/-- The same, on top of what was there. -/
def sumP (t : Till) (m : List ((Int × Int) × Int)) : List Nat → Int
  | [] => t.a.paid
  | i :: is => sumP t m is + (match m[i]? with | some e => divF t m e.1 * e.2 | none => 0)
theorem sumP_eq (t : Till) (m : List ((Int × Int) × Int)) : ∀ l, sumP t m l = t.a.paid + sumI t m l
  | [] => by simp [sumP, sumI]
  | i :: l => by simp only [sumP, sumI, sumP_eq t m l]; omega
def padF (t : Till) (m : List ((Int × Int) × Int)) : Int := sumI t m (List.range m.length)
/-- The account. -/
def accF (t : Till) (m : List ((Int × Int) × Int)) : Acc :=
  if m.length = 0 then { t.a with over := netF t.a } else { t.a with paid := t.a.paid + padF t m, kept := netF t.a - (t.a.paid + padF t m) }
theorem sumI_perm {t : Till} {m : List ((Int × Int) × Int)} {l l' : List Nat} (h : l.Perm l') : sumI t m l = sumI t m l' := by
  induction h with
  | nil => rfl
  | cons x _ ih => simp only [sumI, ih]
  | swap x y l => simp only [sumI]; omega
  | trans _ _ h1 h2 => exact h1.trans h2
theorem sumI_bound {t : Till} {m : List ((Int × Int) × Int)} (hf : ∀ (i : Nat) (e : (Int × Int) × Int), m[i]? = some e → -3000000000000 ≤ divF t m e.1 * e.2 ∧ divF t m e.1 * e.2 ≤ 3000000000000) : ∀ l : List Nat, -3000000000000 * (l.length : Int) ≤ sumI t m l ∧ sumI t m l ≤ 3000000000000 * (l.length : Int)
  | [] => by simp [sumI]
  | i :: l => by
    have ih := sumI_bound hf l
    have h1 : -3000000000000 ≤ (match m[i]? with | some e => divF t m e.1 * e.2 | none => 0) ∧ (match m[i]? with | some e => divF t m e.1 * e.2 | none => 0) ≤ 3000000000000 := by
      cases hm : m[i]? with
      | none => simp
      | some e => exact hf i e hm
    simp only [sumI, List.length_cons]
    omega
/-- No key stands twice. -/
def Keys (m : List ((Int × Int) × Int)) : Prop := ∀ (i : Nat) (e : (Int × Int) × Int), m[i]? = some e → mfind e.1 m = some (i, e.2)
theorem perm_range {l : List Nat} {n : Nat} (hn : l.Nodup) (hl : ∀ i ∈ l, i < n) (ha : ∀ i, i < n → i ∈ l) : l.Perm (List.range n) :=
  (List.perm_ext_iff_of_nodup hn List.nodup_range).2 fun i => ⟨fun h => List.mem_range.2 (hl i h), fun h => ha i (List.mem_range.1 h)⟩
theorem nodup_len : ∀ (n : Nat) (l : List Nat), l.Nodup → (∀ i ∈ l, i < n) → l.length ≤ n
  | 0, [], _, _ => Nat.le_refl _
  | 0, i :: l, _, h => absurd (h i List.mem_cons_self) (by omega)
  | n + 1, l, hn, h => by
    have h1 := nodup_len n (l.erase n) (hn.erase n) (fun i hi => by
      have h2 := h i (List.mem_of_mem_erase hi)
      have h3 : i ≠ n := fun e => by subst e; exact (List.Nodup.not_mem_erase hn) hi
      omega)
    have h2 := List.length_erase (a := n) (l := l)
    split at h2 <;> omega
def bornAt (es : Array MapEntry) (j : Nat) : Nat := (es[j]?.map (·.born)).getD 0
theorem not_seen {es : Array MapEntry} {is : List Nat} {i : Nat} (hi : i < es.size) (h : es[i].born ∉ is.map (bornAt es)) : i ∉ is := fun hm => h (List.mem_map.2 ⟨i, hm, by simp [bornAt, hi]⟩)
theorem seen_in {es : Array MapEntry} {is : List Nat} {i : Nat} (hi : i < es.size) (hn : (es.toList.map (·.born)).Nodup) (his : ∀ j ∈ is, j < es.size) (h : es[i].born ∈ is.map (bornAt es)) : i ∈ is := by
  obtain ⟨j, hj, e⟩ := List.mem_map.1 h
  have hjs := his j hj
  unfold bornAt at e
  rw [Array.getElem?_eq_getElem hjs] at e
  simp only [Option.map_some, Option.getD_some] at e
  have : j = i := by
    rcases Nat.lt_trichotomy i j with hlt | rfl | hlt
    · exact absurd e.symm (by have := List.pairwise_iff_getElem.1 hn i j (by simpa using hi) (by simpa using hjs) hlt; simpa using this)
    · rfl
    · exact absurd e (by have := List.pairwise_iff_getElem.1 hn j i (by simpa using hjs) (by simpa using hi) hlt; simpa using this)
  exact this ▸ hj
set_option maxRecDepth 20000 in
theorem account_any (w : World) (t : Till) (A : Option Addr) (n c : Nat) (A2 : Option Addr) (m c2 : Nat) (mb : Nat) (o : Obj) (m2 : List ((Int × Int) × Int)) (hmb : w.heap[mb]? = some o) (hmo : MapO spotV iv o m2) (hml : mb < w.heap.size) (hp : PayOk m2) (ha : AccOk t.a) (hst : 1 ≤ t.b.stp ∧ t.b.stp ≤ 100) (hk : Keys m2) (hpd : -1000000000000000 ≤ t.a.paid ∧ t.a.paid ≤ 1000000000000000) :
    Calls Tryz.prog 40 #[Value.agg (tlC t A n c A2 m c2 ++ #[.map (some mb)])] w fun e w' => e = .returned (.agg (accC (accF t m2))) ∧ Below w.heap.size w w' := by
  obtain ⟨es, clock, rfl, he, hec, hen⟩ := hmo
  have hsz : es.size = m2.length := by have := congrArg List.length he; simpa using this
  refine enter 43 Tryz.func40 (by kernel_rfl) fun hA => ?_
  refine runS hA 20 (List.replicate 6 (.k 0) ++ List.replicate 6 (.k 2) ++ [.k 0]) xn on (by kernel_rfl) fun w1 hA => ?_
  refine mapLenW (mt := 77) (et := 2) (ty := 3) (b := mb) (α := Int) (enc := iv) hA keySpot ((MapO.at ⟨es, clock, rfl, he, hec, hen⟩ ((hA.below.block mb hml).trans hmb))) (by kernel_rfl) fun hA => ?_
  by_cases h0 : m2.length = 0
  case pos =>
    refine runS hA 8 ([.b true] ++ List.replicate 15 (.k 0)) xn (oc (eq_t (a := (m2.length : Int)) (b := 0) (by omega)) on) (by kernel_rfl) fun w2 hA => ?_
    refine callB hA [] on (net_any w2 t A n c A2 m c2 ha) (by kernel_rfl) fun w3 hb3 hA => ?_
    refine runS hA 12 (List.replicate 7 (.k 2) ++ List.replicate 6 (.k 1)) xn on (by kernel_rfl) fun w4 hA => ?_
    exact ret (v := .agg #[.int .i64 t.a.inn, .int .i64 t.a.back, .int .i64 t.a.duty, .int .i64 t.a.paid, .int .i64 t.a.kept, .int .i64 (netF t.a)]) hA (List.replicate 6 (.k 1)) (by kernel_rfl) ⟨by unfold accF; rw [if_pos h0], hA.below⟩
  case neg =>
    refine runS hA 11 [.b false, .k 0] xn (oc (eq_f (a := (m2.length : Int)) (b := 0) (by omega)) on) (by kernel_rfl) fun w2 hA => ?_
    refine rngMap (mt := 77) (et := 2) (kt := 85) (b := mb) (es := es) (clock := clock) hA ((hA.below.block mb hml).trans hmb) (by kernel_rfl) fun w3 hzr hA => ?_
    refine runS hA 3 [] xn on (by kernel_rfl) fun w4 hA => ?_
    refine loop (γ := List Nat × Array Nat) (fun ⟨is, seen⟩ => [(1, .pointer (some ⟨w.heap.size, 0, none⟩)), (2, .pointer (some ⟨w.heap.size + 1, 0, none⟩)), (3, .pointer (some ⟨w.heap.size + 2, 0, none⟩)), (20, .pointer (some ⟨w1.heap.size, 0, none⟩))]) (fun ⟨is, seen⟩ => [⟨w.heap.size, .cells #[.int .i64 t.b.kind, .int .i64 t.b.runners, .slice A n c, .slice A2 m c2, .bool t.b.fav, .int .i64 t.b.car, .int .i64 t.b.dut, .int .i64 t.b.stp, .int .i64 t.heir, .int .i64 t.a.inn, .int .i64 t.a.back, .int .i64 t.a.duty, .int .i64 t.a.paid, .int .i64 t.a.kept, .int .i64 t.a.over, .map (some mb)] 79 (0, 0)⟩, ⟨w.heap.size + 1, .cells #[.int .i64 0, .int .i64 0, .int .i64 0, .int .i64 0, .int .i64 0, .int .i64 0] 35 (0, 0)⟩, ⟨w.heap.size + 2, .cells #[.int .i64 t.a.inn, .int .i64 t.a.back, .int .i64 t.a.duty, .int .i64 (sumP t m2 is), .int .i64 t.a.kept, .int .i64 t.a.over] 35 (0, 0)⟩, ⟨w1.heap.size, .mapIter (some mb) clock seen clock⟩]) (fun _ => []) (fun g ⟨is, seen⟩ wr => is.Nodup ∧ (∀ i ∈ is, i < m2.length) ∧ g = m2.length - is.length ∧ ∀ x, x ∈ seen.toList ↔ x ∈ is.map (bornAt es)) m2.length ⟨[], #[]⟩ [true, true, true, true] hA (by kernel_rfl) (⟨List.nodup_nil, (fun _ h => nomatch h), rfl, fun x => by simp⟩) ?_
    rintro _ ⟨is, seen⟩ wr ⟨hnd, hin, rfl, hsn⟩ J hJ hA
    refine runS hA 2 [] xn on (by kernel_rfl) fun w5 hA => ?_
    refine nxtMap (ty := 0) (r := w1.heap.size) (seen := seen) (es := es) (clock := clock) (b := mb) hA 3 ((hA.below.block mb hml).trans hmb) hec (by kernel_rfl) (fun hall hA => ?_) (fun i wn hi hns hwz hwh hA => ?_)
    ·
      refine runS hA 7 [] xn on (by kernel_rfl) fun w6 hA => ?_
      refine leave hA (by kernel_rfl) fun hA => ?_
      have hpm : sumI t m2 is = padF t m2 := sumI_perm (perm_range hnd hin (fun i hi => seen_in (by omega) hen (fun j hj => by have := hin j hj; omega) ((hsn _).1 (hall i (by omega)))))
      have hf : ∀ (i : Nat) (e : (Int × Int) × Int), m2[i]? = some e → -3000000000000 ≤ divF t m2 e.1 * e.2 ∧ divF t m2 e.1 * e.2 ≤ 3000000000000 := fun i e hie => divU_bound hp ha hst (hk i e hie)
      have hsb := sumI_bound hf is
      have hln := nodup_len _ is hnd hin
      have hpl := hp.2
      have hnb : -3000000000000 ≤ netF t.a ∧ netF t.a ≤ 3000000000000 := by obtain ⟨ha1, ha2, ha3⟩ := ha; unfold netF; omega
      refine runS hA 3 [] xn on (by kernel_rfl) fun w7 hA => ?_
      refine draw hA [true, true, true, true] [0, 1, 2, 3, 4, 5, 6] (by kernel_rfl) (by kernel_rfl) fun hA => ?_
      refine runS hA 4 ([.t 0, .t 1] ++ List.replicate 15 (.k 0) ++ [.t 3, .t 4, .k 2]) xn on (by kernel_rfl) fun w8 hA => ?_
      refine callB hA [] on (net_any w8 t A n c A2 m c2 ha) (by kernel_rfl) fun w9 hb9 hA => ?_
      refine runS hA 1 [.t 5] xn on (by kernel_rfl) fun w10 hA => ?_
      have hsp := sumP_eq t m2 is
      refine revals hA (rc 40 (wr64 (x := netF t.a - sumP t m2 is) (y := netF t.a - sumP t m2 is) (by omega) rfl) rn) (by kernel_rfl) fun hA => ?_
      refine runS hA 12 ([.t 6, .b false] ++ List.replicate 7 (.k 2) ++ List.replicate 6 (.k 1)) xn on (by kernel_rfl) fun w11 hA => ?_
      exact ret (v := .agg #[.int .i64 t.a.inn, .int .i64 t.a.back, .int .i64 t.a.duty, .int .i64 (sumP t m2 is), .int .i64 (netF t.a - sumP t m2 is), .int .i64 t.a.over]) hA (List.replicate 6 (.k 1)) (by kernel_rfl) ⟨by unfold accF; rw [if_neg h0, ← hpm, hsp], hA.below⟩
    ·
      have hni := not_seen hi (fun hm => hns ((hsn _).2 hm))
      obtain ⟨x, hx⟩ : ∃ x, m2[i]? = some x := ⟨_, List.getElem?_eq_getElem (by omega)⟩
      have hkv : es[i].key = spotV x.1 ∧ es[i].val = iv x.2 := by
        have h1 := congrArg (fun l => l[i]?) he
        simp only [List.getElem?_map, hx] at h1
        rw [Array.getElem?_toList, Array.getElem?_eq_getElem hi] at h1
        simpa using h1
      have hfx := divU_bound hp ha hst (hk i x hx)
      have hf : ∀ (i : Nat) (e : (Int × Int) × Int), m2[i]? = some e → -3000000000000 ≤ divF t m2 e.1 * e.2 ∧ divF t m2 e.1 * e.2 ≤ 3000000000000 := fun i e hie => divU_bound hp ha hst (hk i e hie)
      have hsb := sumI_bound hf is
      have hnd' : (i :: is).Nodup := List.nodup_cons.2 ⟨hni, hnd⟩
      have hin' : ∀ k ∈ i :: is, k < m2.length := fun k hk => by rcases List.mem_cons.1 hk with rfl | hk; omega; exact hin k hk
      have hln := nodup_len _ _ hnd' hin'
      rw [List.length_cons] at hln
      have hpl := hp.2
      refine revals hA (rc 21 (show .tuple #[.bool true, es[i].key, es[i].val] = .tuple #[.bool true, .agg #[.int .i64 x.1.1, .int .i64 x.1.2], .int .i64 x.2] by rw [hkv.1, hkv.2]; rfl) rn) (by kernel_rfl) fun hA => ?_
      refine runS hA 10 [] xn on (by kernel_rfl) fun w6 hA => ?_
      refine entMap (r := w1.heap.size) (seen := seen) (es := es) (clock := clock) (b := mb) (i := i) hA 3 hi ((hA.below.block mb hml).trans hmb) hen (by kernel_rfl) fun hA => ?_
      refine revals hA (rc 23 (show .tuple #[es[i].key, es[i].val] = .tuple #[.agg #[.int .i64 x.1.1, .int .i64 x.1.2], .int .i64 x.2] by rw [hkv.1, hkv.2]; rfl) rn) (by kernel_rfl) fun hA => ?_
      refine runS hA 7 [.k 4, .k 4] xn on (by kernel_rfl) fun w7 hA => ?_
      refine draw hA [true, true, true, true, true] [0, 1, 2, 3, 4, 5, 6, 7, 8] (by kernel_rfl) (by kernel_rfl) fun hA => ?_
      refine runS hA 5 ([.t 0, .t 1, .k 2, .t 2] ++ List.replicate 16 (.k 0) ++ [.t 3, .k 4, .k 4, .t 5]) xn on (by kernel_rfl) fun w8 hA => ?_
      refine callB hA [] on (dividend_any w8 t A n c A2 m c2 mb _ m2 ((hA.below.block mb hml).trans hmb) ⟨es, clock, rfl, he, hec, hen⟩ (Nat.lt_of_lt_of_le hml hA.size) hp ha hst x.1) (by kernel_rfl) fun w9 hb9 hA => ?_
      have hsp := sumP_eq t m2 is
      have hw1 : IntKind.i64.wrap (divF t m2 x.1 * x.2) = divF t m2 x.1 * x.2 := by rw [IntKind.wrap_i64]; omega
      have hw2 : IntKind.i64.wrap (sumP t m2 is + divF t m2 x.1 * x.2) = sumP t m2 (i :: is) := by rw [IntKind.wrap_i64, show sumP t m2 (i :: is) = sumP t m2 is + divF t m2 x.1 * x.2 by simp only [sumP, hx]]; omega
      refine runS hA 2 [.t 6, .t 7] xn on (by kernel_rfl) fun w10 hA => ?_
      refine revals hA (rc 33 (show .int .i64 (IntKind.i64.wrap ((sumP t m2 is) + (IntKind.i64.wrap ((divF t m2 x.1) * x.2)))) = .int .i64 (sumP t m2 (i :: is)) by rw [hw1, hw2]) rn) (by kernel_rfl) fun hA => ?_
      refine runS hA 5 [.t 8, .b false, .k 2] xn on (by kernel_rfl) fun w11 hA => ?_
      exact again hJ (m2.length - (i :: is).length) (⟨i :: is, seen.push es[i].born⟩) [true, true, true, true, false] hA (by rw [List.length_cons]; omega) (by kernel_rfl) ⟨hnd', hin', rfl, fun y => by simp only [Array.toList_push, List.mem_append, List.map_cons, List.mem_cons, hsn]; rw [show bornAt es i = es[i].born by simp [bornAt, hi]]; simp only [List.not_mem_nil, or_false]; exact Or.comm⟩
end Go.Proofs.YtbahiemjaomdcaaGreat
