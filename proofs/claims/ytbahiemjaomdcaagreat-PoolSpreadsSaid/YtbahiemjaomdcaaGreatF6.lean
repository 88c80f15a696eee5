/- Parts of a proof: PK PL PM PN QA QB QC QD QE. -/
import Derived.Test.YtbahiemjaomdcaaGreatF5
import Derived.Shelf.Sort.AssemblyIn
import Derived.Sort.EveryDepth
import Derived.Sort.OwnSortedInts

/- pool: firstGreatest, favourite. -/
namespace Go.Proofs.YtbahiemjaomdcaaGreat
open Go.RowKit Go.Shelf

attribute [local go_sem] Oper.semAt_some

set_option maxHeartbeats 400000 in
theorem unitsOf_any (w : World) (k : Nat) (t : Nat → Int) (i : Nat) (T : TypeId) (h : Blk w k (tA t) T) (hi : i < 8) :
    Calls Tryz.prog 84 #[.int .i64 (i : Int), .pointer (some ⟨k, 0, none⟩)] w fun e w' => e = .returned (.int .i64 (t i)) ∧ w' = w := by
  have z := (h.cell i).trans (tA_get _ hi)
  have hi' : (i : Int) < 8 := by omega
  go_enter Tryz.func84, Tryz.ntmps84
  go_wp2
  go_ret
  exact ⟨rfl, rfl⟩
def betterF (t : Nat → Int) (m y : Int) : Int := if t m.toNat < t y.toNat then y else m
def fgF (t : Nat → Int) (xs : List Int) : Int := (xs.drop 1).foldl (betterF t) (xs[0]?.getD 0)
theorem fold_in (t : Nat → Int) : ∀ (ys : List Int) (m : Int), (ys.foldl (betterF t) m) = m ∨ (ys.foldl (betterF t) m) ∈ ys
  | [], _ => .inl rfl
  | y :: ys, m => by
    rw [List.foldl_cons]
    rcases fold_in t ys (betterF t m y) with h | h
    · rw [h]
      unfold betterF
      split
      · exact .inr List.mem_cons_self
      · exact .inl rfl
    · exact .inr (List.mem_cons_of_mem _ h)
theorem fgF_mem (t : Nat → Int) {xs : List Int} (h : 0 < xs.length) : fgF t xs ∈ xs := by
  unfold fgF
  rw [List.getElem?_eq_getElem h]
  rcases fold_in t (xs.drop 1) xs[0] with e | e
  · rw [Option.getD_some, e]
    exact List.getElem_mem h
  · rw [Option.getD_some]
    exact List.mem_of_mem_drop e
theorem fold_take (t : Nat → Int) (xs : List Int) {k : Nat} (h : k + 1 < xs.length) {y : Int} (hy : y = xs[k + 1]?.getD 0) (m : Int) :
    ((xs.drop 1).take (k + 1)).foldl (betterF t) m = betterF t (((xs.drop 1).take k).foldl (betterF t) m) y := by
  have h1 : k < (xs.drop 1).length := by rw [List.length_drop]; omega
  rw [List.take_succ_eq_append_getElem h1, List.foldl_append]
  simp only [List.foldl_cons, List.foldl_nil]
  rw [List.getElem?_eq_getElem h] at hy
  rw [hy, List.getElem_drop]
  simp [Nat.add_comm]
set_option maxHeartbeats 4000000 in
theorem greatest_any (w : World) (B : Nat) (A : Option Addr) (n c : Nat) (xs : List Int) (k : Nat) (t : Nat → Int) (T : TypeId) (hx : IntsAt w B A n xs) (h : Blk w k (tA t) T) (h0 : ∀ x ∈ xs, 0 ≤ x ∧ x < 8) (hn : 2 ≤ n) (hc : n ≤ c) :
    Calls Tryz.prog 83 #[.slice A n c, .func (.func 84) #[] #[.pointer (some ⟨k, 0, none⟩)]] w fun e w' => e = .returned (.int .i64 (fgF t xs)) ∧ w' = w := by
  have hm := hx.small
  have Hl := Lib.hid hx.len
  obtain ⟨b3, o3, rfl, hb3, x0⟩ := hx.cell (k := 0) (by omega)
  rw [Nat.add_zero] at x0
  obtain ⟨l, rfl⟩ : ∃ l, n = l + 1 := ⟨n - 1, by omega⟩
  have hnc : (1 : Int) ≤ ((l + 1 : Nat) : Int) := by omega
  have hnc2 : ((l + 1 : Nat) : Int) ≤ c := by omega
  go_enter Tryz.func83, Tryz.ntmps83
  go_wp2_with (fail)
  go_loopg [5, 7, 14] l (fun g' v5 _ v14 wr => ∃ j : Nat, (j ≤ l ∧ g' = l - j ∧ v14 = .int .i64 (j : Int)) ∧ v5 = .int .i64 (((xs.drop 1).take j).foldl (betterF t) (xs[0]?.getD 0)) ∧ wr = w)
  case atStart => exact ⟨0, ⟨by omega, rfl, rfl⟩, by rw [List.take_zero]; rfl, rfl⟩
  case round =>
    clear x0 hnc
    obtain ⟨j, ⟨hj, rfl, rfl⟩, rfl, rfl⟩ := hrel
    by_cases hlt : j < l
    case neg =>
      obtain rfl : j = l := by omega
      go_wp2_with (fail)
      go_ret
      exact ⟨ret_int (by unfold fgF; rw [List.take_of_length_le (by rw [List.length_drop, Hl.out]; omega)]), rfl⟩
    case pos =>
      have hwk : IntKind.i64.wrap ((j : Int) + 1) = (j : Int) + 1 := by rw [IntKind.wrap_i64]; omega
      obtain ⟨b4, o4, e, hb4, xj⟩ := hx.cell (k := j + 1) (by omega)
      cases e
      have hml : ((xs.drop 1).take j).foldl (betterF t) (xs[0]?.getD 0) ∈ xs := by
        have e0 : xs[0]?.getD 0 ∈ xs := by
          rw [List.getElem?_eq_getElem (by rw [Hl.out]; omega)]
          exact List.getElem_mem _
        rcases fold_in t ((xs.drop 1).take j) (xs[0]?.getD 0) with e | e
        · rw [e]
          exact e0
        · exact List.mem_of_mem_drop (List.mem_of_mem_take e)
      have hf := fold_take t xs (k := j) (by rw [Hl.out]; omega) (y := xs[j + 1]?.getD 0) rfl (xs[0]?.getD 0)
      have hyl : xs[j + 1]?.getD 0 ∈ xs := by
        rw [List.getElem?_eq_getElem (by rw [Hl.out]; omega)]
        exact List.getElem_mem _
      obtain ⟨p, hp⟩ : ∃ p : Nat, ((xs.drop 1).take j).foldl (betterF t) (xs[0]?.getD 0) = p := ⟨_, (Int.toNat_of_nonneg (h0 _ hml).1).symm⟩
      obtain ⟨q, hq⟩ : ∃ q : Nat, xs[j + 1]?.getD 0 = q := ⟨_, (Int.toNat_of_nonneg (h0 _ hyl).1).symm⟩
      have hp8 := (h0 _ hml).2
      have hq8 := (h0 _ hyl).2
      rw [hp] at hp8 hf
      rw [hq] at hq8 hf xj
      rw [hp]
      rw [show o3 + (j + 1) = o3 + 1 + j by omega] at xj
      have Hf := Lib.hid hf
      clear hf hml hyl hp hq
      go_wp2_with (fail)
      refine (unitsOf_any wr k t q T h (by omega)).mono ?_
      rintro e w2 ⟨rfl, rfl⟩
      go_wp2_with (fail)
      refine (unitsOf_any w2 k t p T h (by omega)).mono ?_
      rintro e w3 ⟨rfl, rfl⟩
      by_cases hpq : t p < t q
      case pos =>
        go_wp2_with (fail)
        go_roundg (l - (j + 1))
        case measure => omega
        case rel => exact ⟨j + 1, ⟨by omega, rfl, by simp⟩, by rw [Hf.out]; unfold betterF; rw [if_pos (by simpa using hpq)], rfl⟩
      case neg =>
        go_wp2_with (fail)
        go_roundg (l - (j + 1))
        case measure => omega
        case rel => exact ⟨j + 1, ⟨by omega, rfl, by simp⟩, by rw [Hf.out]; unfold betterF; rw [if_neg (by simpa using hpq)], rfl⟩
/-- What a book's favourite is. -/
def favF (b : Bk) : Int := fgF (tallyF (okF b) (fun x => x.first) b.bets) (racN b)
theorem named_on (w : World) (B : Nat) (b : Bk) (A : Option Addr) (n c : Nat) (A2 : Option Addr) (m c2 : Nat) (h : IntsAt w B A2 m b.scr) (hB : B ≤ w.heap.size) :
    OnAt 82 (bkV b A n c A2 m c2) w b.bets (fun x => x.first) (fun x => x.second) (okF b) :=
  ⟨enters_of Tryz.func82 (by kernel_rfl) rfl, fun W hb x _ => named_any W B b A n c A2 m c2 x (h.below hb hB) (Nat.le_trans hB hb.size)⟩
set_option maxHeartbeats 4000000 in
theorem favourite_any (w : World) (B : Nat) (b : Bk) (A : Option Addr) (n c : Nat) (A2 : Option Addr) (m c2 : Nat) (h : BkAt w B b A n c A2 m c2) (hB : B ≤ w.heap.size)
    (hr : 0 ≤ b.runners ∧ b.runners ≤ 8) (hu : ∀ x ∈ b.bets, 0 ≤ x.units ∧ x.units ≤ 1000) (hf : ∀ x ∈ b.bets, 0 ≤ x.first ∧ x.first < 8) (hn : b.bets.length ≤ 1000) (h2 : 2 ≤ (racN b).length) :
    Calls Tryz.prog 58 #[bkV b A n c A2 m c2] w fun e w' => e = .returned (.int .i64 (favF b)) ∧ Below w.heap.size w w' := by
  have hlr : (racN b).length ≤ 8 := Nat.le_trans (racL_len b _) (by omega)
  have hmr : ∀ x ∈ racN b, 0 ≤ x ∧ x < 8 := fun x hx => by
    have := (racL_mem b).1 hx
    omega
  go_enter Tryz.func58, Tryz.ntmps58
  go_wp2_with (fail)
  obtain ⟨W, hW⟩ : ∃ W, W = w.alloc (.cells (bkC b A n c A2 m c2) 72) := ⟨_, rfl⟩
  have B0 : Below w.heap.size w W := by rw [hW]; exact (Below.refl _ w).alloc (Nat.le_refl _) _
  have X0 : Box8 W w.heap.size b A n c A2 m c2 := by rw [hW]; exact Box8.new w b A n c A2 m c2 _
  rw [← hW]
  clear hW
  have h1 := h.below B0 hB
  have hB1 : B ≤ W.heap.size := Nat.le_trans hB B0.size
  refine (count_any W B b A n c A2 m c2 _ _ (fun x => x.first) (fun x => x.second) (okF b) h1.bets hB1 (named_on W B b A n c A2 m c2 h1.scr hB1) (fun x hx _ => hf x hx) hu hn).mono ?_
  rintro e w2 ⟨rfl, hb⟩
  have B2 := B0.trans (hb.mono B0.size)
  have X := Lib.hid (X0.up hb X0.lt)
  obtain ⟨t, ht⟩ : ∃ t, t = tallyF (okF b) (fun x => x.first) b.bets := ⟨_, rfl⟩
  rw [← ht]
  have Ht := Lib.hid ht
  clear ht hb B0 X0 h1 hB1 W
  obtain ⟨x0, x1, x2, x3, x4, x5, x6, x7, hxl⟩ := X.out
  unfold tA
  go_wp2_with (fail)
  obtain ⟨W3, hW3⟩ : ∃ W, W = w2.alloc (.cells #[.int .i64 (t 0), .int .i64 (t 1), .int .i64 (t 2), .int .i64 (t 3), .int .i64 (t 4), .int .i64 (t 5), .int .i64 (t 6), .int .i64 (t 7)] 120) := ⟨_, rfl⟩
  have B3 : Below w.heap.size w W3 := by rw [hW3]; exact B2.alloc B2.size _
  have Z3 : Blk W3 w2.heap.size (tA t) 120 := by rw [hW3]; exact Blk.new w2 (tA t) _
  rw [← hW3]
  clear hW3 B2 X x0 x1 x2 x3 x4 x5 x6 x7 hxl
  refine (racing_any W3 B b A n c A2 m c2 (h.scr.below B3 hB) (Nat.le_trans hB B3.size) (by omega)).mono ?_
  rintro e w4 ⟨v, rfl, ho, hb⟩
  have B4 := B3.trans (hb.mono B3.size)
  have Z4 := Z3.up hb Z3.lt
  obtain ⟨A4, c4, rfl, hc4, -, hx⟩ := ownT_form ho (by omega)
  clear ho hb
  go_wp2_with (fail)
  refine (greatest_any w4 _ A4 (racN b).length c4 (racN b) w2.heap.size t _ hx Z4 hmr h2 hc4).mono ?_
  rintro e w5 ⟨rfl, rfl⟩
  go_wp2_with (fail)
  go_ret
  exact ⟨ret_int (by rw [Ht.out]; rfl), B4⟩
end Go.Proofs.YtbahiemjaomdcaaGreat

/- pool: what a valid book is; Favourite. -/
namespace Go.Proofs.YtbahiemjaomdcaaGreat
open Go.RowKit Go.Shelf

attribute [local go_sem] Oper.semAt_some

def lacks (l : List Int) : Nat → Nat
  | 0 => 0
  | k + 1 => lacks l k + if (k : Int) ∈ l then 0 else 1
theorem racL_length (b : Bk) : ∀ k, (racL b k).length = lacks b.scr k
  | 0 => rfl
  | k + 1 => by
    rw [racL, List.length_append, racL_length b k, lacks]
    split <;> rfl
theorem lacks_cons (x : Int) (l : List Int) : ∀ k : Nat, lacks l k ≤ lacks (x :: l) k + if 0 ≤ x ∧ x < (k : Int) then 1 else 0
  | 0 => by simp [lacks]
  | k + 1 => by
    have ih := lacks_cons x l k
    rw [lacks, lacks]
    by_cases hk : (k : Int) = x
    · rw [if_pos (show (k : Int) ∈ x :: l by rw [hk]; exact List.mem_cons_self), if_pos (show 0 ≤ x ∧ x < ((k + 1 : Nat) : Int) by omega)]
      rw [if_neg (by omega)] at ih
      split <;> omega
    · have e : ((k : Int) ∈ x :: l) ↔ (k : Int) ∈ l := by rw [List.mem_cons]; exact ⟨fun h => h.resolve_left hk, .inr⟩
      simp only [e]
      by_cases hx : 0 ≤ x ∧ x < (k : Int)
      · rw [if_pos hx] at ih
        rw [if_pos (show 0 ≤ x ∧ x < ((k + 1 : Nat) : Int) by omega)]
        omega
      · rw [if_neg hx] at ih
        omega
theorem lacks_ge : ∀ (l : List Int) (k : Nat), k ≤ lacks l k + l.length
  | [], k => by
    induction k with
    | zero => exact Nat.zero_le _
    | succ k ih =>
      rw [lacks, if_neg (by simp)]
      omega
  | x :: l, k => by
    have h1 := lacks_ge l k
    have h2 := lacks_cons x l k
    rw [List.length_cons]
    split at h2 <;> omega
/-- What holds of a valid book. -/
structure ValidB (b : Bk) : Prop where
  kind : 0 ≤ b.kind ∧ b.kind ≤ 3
  run : 2 ≤ b.runners ∧ b.runners ≤ 8
  car : 0 ≤ b.car ∧ b.car ≤ 1000000
  dut : 0 ≤ b.dut ∧ b.dut ≤ 500
  stp : 1 ≤ b.stp ∧ b.stp ≤ 100
  len : b.bets.length ≤ 100
  bet : ∀ x ∈ b.bets, refusesF b x = false
  scr : scratchable b b.scr = true
theorem valid_of {b : Bk} (h : bookF b = 0) : ValidB b := by
  unfold bookF at h
  split at h
  · cases h
  · rename_i h1
    split at h
    · cases h
    · rename_i h2
      split at h
      · cases h
      · rename_i h3
        split at h
        · cases h
        · rename_i h4
          split at h
          · cases h
          · rename_i h5
            simp only [within_one] at h1 h2
            simp at h1 h2
            refine ⟨h1, by omega, by omega, by omega, by omega, by omega, fun x hx => ?_, by simpa using h5⟩
            simp at h4
            exact h4 x hx
theorem ValidB.first {b : Bk} (h : ValidB b) {x : Bet} (hx : x ∈ b.bets) : (0 ≤ x.first ∧ x.first < b.runners) ∧ 1 ≤ x.units ∧ x.units ≤ 1000 := by
  have := h.bet x hx
  unfold refusesF at this
  split at this
  · cases this
  · rename_i h1
    simp only [Classical.not_not, within_one, isR] at h1
    simp at h1
    omega
theorem ValidB.second {b : Bk} (h : ValidB b) {x : Bet} (hx : x ∈ b.bets) : x.second = -1 ∨ (0 ≤ x.second ∧ x.second < b.runners) := by
  have := h.bet x hx
  unfold refusesF at this
  split at this
  · cases this
  · split at this
    · right
      simp [isR] at this
      omega
    · split at this
      · right
        simp [isR] at this
        omega
      · left
        simpa using this
theorem ValidB.racing {b : Bk} (h : ValidB b) : 2 ≤ (racN b).length := by
  have h1 := h.scr
  unfold scratchable at h1
  simp only [Bool.and_eq_true, decide_eq_true_eq] at h1
  have h2 := lacks_ge b.scr b.runners.toNat
  unfold racN
  rw [racL_length]
  have := h.run
  omega
def favR (b : Bk) : Int := if bookF b = 0 then favF b else 0
set_option maxHeartbeats 4000000 in
theorem Favourite_any (w : World) (B : Nat) (b : Bk) (A : Option Addr) (n c : Nat) (A2 : Option Addr) (m c2 : Nat) (h : BkAt w B b A n c A2 m c2) (hB : B ≤ w.heap.size) :
    Calls Tryz.prog 30 #[bkV b A n c A2 m c2] w fun e w' => e = .returned (.tuple #[.int .i64 (favR b), .int .i64 (bookF b)]) ∧ Below w.heap.size w w' := by
  go_enter Tryz.func30, Tryz.ntmps30
  go_wp2_with (fail)
  obtain ⟨W, hW⟩ : ∃ W, W = w.alloc (.cells (bkC b A n c A2 m c2) 25) := ⟨_, rfl⟩
  have B0 : Below w.heap.size w W := by rw [hW]; exact (Below.refl _ w).alloc (Nat.le_refl _) _
  have X0 : Box8 W w.heap.size b A n c A2 m c2 := by rw [hW]; exact Box8.new w b A n c A2 m c2 _
  rw [← hW]
  clear hW
  refine (checkBook_any W B b A n c A2 m c2 (h.below B0 hB) (Nat.le_trans hB B0.size)).mono ?_
  rintro e w2 ⟨rfl, hb⟩
  have B2 := B0.trans (hb.mono B0.size)
  obtain ⟨x0, x1, x2, x3, x4, x5, x6, x7, -⟩ := X0.up hb X0.lt
  obtain ⟨z, hz⟩ : ∃ z, z = bookF b := ⟨_, rfl⟩
  rw [← hz]
  have Hz := Lib.hid hz
  clear hz hb B0 X0 W
  by_cases h0 : z = 0
  case neg =>
    have H0 := Lib.hid h0
    have h0b : (z == 0) = false := by simp [h0]
    clear h0
    go_wp2_with (fail)
    exact bodyPost_ret (results_tmp2 rfl _ _ _) rfl ⟨by rw [← Hz.out, show favR b = 0 from if_neg (by rw [← Hz.out]; exact H0.out)]; rfl, B2⟩
  case pos =>
    subst h0
    have V := valid_of Hz.out.symm
    have hv1 := V.run
    have hv2 := V.len
    go_wp2_with (fail)
    refine (favourite_any w2 B b A n c A2 m c2 (h.below B2 hB) (Nat.le_trans hB B2.size) (by omega) (fun x hx => by have := (V.first hx).2; omega) (fun x hx => by have := (V.first hx).1; omega) (by omega) V.racing).mono ?_
    rintro e w3 ⟨rfl, hb⟩
    have B3 := B2.trans (hb.mono B2.size)
    clear hb
    go_wp2_with (fail)
    exact bodyPost_ret (results_tmp2 rfl _ _ _) rfl ⟨by rw [← Hz.out, show favR b = favF b from if_pos Hz.out.symm]; rfl, B3⟩
end Go.Proofs.YtbahiemjaomdcaaGreat

/- pool: a till; on. -/
namespace Go.Proofs.YtbahiemjaomdcaaGreat
open Go.RowKit Go.Shelf

attribute [local go_sem] Oper.semAt_some

structure Acc where
  inn : Int
  back : Int
  duty : Int
  paid : Int
  kept : Int
  over : Int
deriving DecidableEq
structure Till where
  b : Bk
  heir : Int
  a : Acc
@[reducible] def tlC (t : Till) (A : Option Addr) (n c : Nat) (A2 : Option Addr) (m c2 : Nat) : Array Value :=
  #[.int .i64 t.b.kind, .int .i64 t.b.runners, .slice A n c, .slice A2 m c2, .bool t.b.fav, .int .i64 t.b.car, .int .i64 t.b.dut, .int .i64 t.b.stp, .int .i64 t.heir, .int .i64 t.a.inn, .int .i64 t.a.back, .int .i64 t.a.duty, .int .i64 t.a.paid, .int .i64 t.a.kept, .int .i64 t.a.over]
@[reducible] def tlV (t : Till) (A : Option Addr) (n c : Nat) (A2 : Option Addr) (m c2 : Nat) : Value := .agg (tlC t A n c A2 m c2)
/-- A bet that goes to the favourite. -/
def toHeir (t : Till) (x : Bet) : Bool := !okF t.b x && (t.b.fav && (x.second == -1))
def okT (t : Till) (x : Bet) : Bool := okF t.b x || toHeir t x
def s1T (t : Till) (x : Bet) : Int := if toHeir t x = true then t.heir else x.first
theorem on_results (W : World) (tmps : Array Value) (k : Nat) (a b : Value) (ok : Bool) (T : TypeId) (h : Blk W k #[a, b] T) (t : tmps.getD 4 undef = .pointer (some ⟨k, 0, none⟩)) (t5 : tmps.getD 5 undef = .bool ok) :
    (results Tryz.f60 tmps).run Tryz.prog W = .ok (.tuple #[.agg #[a, b], .bool ok]) W := by
  have c0 := h.cell 0
  have c1 := h.cell 1
  simp only [Array.getD_eq_getD_getElem?] at t t5
  simp at c0 c1
  simp [results, Tryz.results60, go_sem, t, t5, c0, c1]
theorem ret_on {a a' b : Int} {o o' : Bool} (h : a = a') (h2 : o = o') : Ending.returned (.tuple #[.agg #[.int .i64 a, .int .i64 b], .bool o]) = .returned (.tuple #[.agg #[.int .i64 a', .int .i64 b], .bool o']) := by rw [h, h2]
set_option maxRecDepth 100000 in
set_option maxHeartbeats 8000000 in
theorem on_any (w : World) (B : Nat) (t : Till) (A : Option Addr) (n c : Nat) (A2 : Option Addr) (m c2 : Nat) (x : Bet) (h : IntsAt w B A2 m t.b.scr) (hB : B ≤ w.heap.size) :
    Calls Tryz.prog 60 #[tlV t A n c A2 m c2, betV x] w fun e w' => e = .returned (.tuple #[.agg #[.int .i64 (s1T t x), .int .i64 x.second], .bool (okT t x)]) ∧ Below w.heap.size w w' := by
  go_enter Tryz.func60, Tryz.ntmps60
  go_wp2_with (fail)
  obtain ⟨W, hW⟩ : ∃ W, W = ((w.alloc (.cells (tlC t A n c A2 m c2) 74)).alloc (.cells (betC x) 93)).alloc (.cells #[.int .i64 0, .int .i64 0] 85) := ⟨_, rfl⟩
  have B1 : Below w.heap.size w W := by rw [hW]; exact (((Below.refl _ w).alloc (Nat.le_refl _) _).alloc (by simp) _).alloc (by simp; omega) _
  have T1 : Blk W w.heap.size (tlC t A n c A2 m c2) 74 := by rw [hW]; exact ((Blk.new w _ _).alloc _).alloc _
  have Y1 : Blk W (w.heap.size + 1) (betC x) 93 := by
    have z := (Blk.new (w.alloc (.cells (tlC t A n c A2 m c2) 74)) (betC x) 93).alloc (.cells #[.int .i64 0, .int .i64 0] 85)
    rw [World.size_alloc] at z
    rw [hW]
    exact z
  have Z1 : Blk W (w.heap.size + 2) #[.int .i64 0, .int .i64 0] 85 := by
    have z := Blk.new ((w.alloc (.cells (tlC t A n c A2 m c2) 74)).alloc (.cells (betC x) 93)) #[.int .i64 0, .int .i64 0] 85
    rw [World.size_alloc, World.size_alloc] at z
    rw [hW]
    exact z
  rw [← hW]
  clear hW
  refine (named_any W B t.b A n c A2 m c2 x (h.below B1 hB) (Nat.le_trans hB B1.size)).mono ?_
  rintro e w2 ⟨rfl, hb⟩
  have B2 := B1.trans (hb.mono B1.size)
  have hb4 : w2.cell? ⟨w.heap.size, 4, none⟩ = some (.bool t.b.fav) := (T1.up hb T1.lt).cell 4
  have hb8 : w2.cell? ⟨w.heap.size, 8, none⟩ = some (.int .i64 t.heir) := (T1.up hb T1.lt).cell 8
  have y1 : w2.cell? ⟨w.heap.size + 1, 1, none⟩ = some (.int .i64 x.second) := (Y1.up hb Y1.lt).cell 1
  have Z2 := Z1.up hb Z1.lt
  have z0 : w2.cell? ⟨w.heap.size + 2, 0, none⟩ = some (.int .i64 0) := Z2.cell 0
  have z1 : w2.cell? ⟨w.heap.size + 2, 1, none⟩ = some (.int .i64 0) := Z2.cell 1
  have f0 : w2.frozen? ⟨w.heap.size + 1 + 1, 0, none⟩ = false := Z2.frozen 0
  have f1 : w2.frozen? ⟨w.heap.size + 1 + 1, 1, none⟩ = false := Z2.frozen 1
  have hw := (Z2.set 0 (.int .i64 x.first)).set 1 (.int .i64 x.second)
  have B3 := (B2.setCell (p := ⟨w.heap.size + 2, 0, none⟩) (by simp) (.int .i64 x.first)).setCell (p := ⟨w.heap.size + 2, 1, none⟩) (by simp) (.int .i64 x.second)
  have hw' := (hw.set 0 (.int .i64 x.first)).set 1 (.int .i64 x.second)
  have B3' := (B3.setCell (p := ⟨w.heap.size + 2, 0, none⟩) (by simp) (.int .i64 x.first)).setCell (p := ⟨w.heap.size + 2, 1, none⟩) (by simp) (.int .i64 x.second)
  have hwh := (hw.set 0 (.int .i64 t.heir)).set 1 (.int .i64 (-1))
  have B4 := (B3.setCell (p := ⟨w.heap.size + 2, 0, none⟩) (by simp) (.int .i64 t.heir)).setCell (p := ⟨w.heap.size + 2, 1, none⟩) (by simp) (.int .i64 (-1))
  have hwh' := (hwh.set 0 (.int .i64 t.heir)).set 1 (.int .i64 (-1))
  have B4' := (B4.setCell (p := ⟨w.heap.size + 2, 0, none⟩) (by simp) (.int .i64 t.heir)).setCell (p := ⟨w.heap.size + 2, 1, none⟩) (by simp) (.int .i64 (-1))
  have HW := Lib.hid (And.intro hw' B3')
  have HV := Lib.hid (And.intro hwh' B4')
  have HC := Lib.hid (show ((((w2.setCell ⟨w.heap.size + 1 + 1, 0, none⟩ (.int .i64 x.first)).setCell ⟨w.heap.size + 1 + 1, 1, none⟩ (.int .i64 x.second)).setCell ⟨w.heap.size + 1 + 1, 0, none⟩ (.int .i64 t.heir)).setCell ⟨w.heap.size + 1 + 1, 1, none⟩ (.int .i64 (-1))).cell? ⟨w.heap.size + 1 + 1, 0, none⟩ = some (.int .i64 t.heir) ∧ ((((w2.setCell ⟨w.heap.size + 1 + 1, 0, none⟩ (.int .i64 x.first)).setCell ⟨w.heap.size + 1 + 1, 1, none⟩ (.int .i64 x.second)).setCell ⟨w.heap.size + 1 + 1, 0, none⟩ (.int .i64 t.heir)).setCell ⟨w.heap.size + 1 + 1, 1, none⟩ (.int .i64 (-1))).cell? ⟨w.heap.size + 1 + 1, 1, none⟩ = some (.int .i64 (-1)) from ⟨hwh.cell 0, hwh.cell 1⟩)
  clear hb B1 T1 Y1 Z1 W hw hwh B3 B4 Z2 hw' B3' hwh' B4'
  obtain ⟨r, hr⟩ : ∃ r, r = okF t.b x := ⟨_, rfl⟩
  obtain ⟨u, hu⟩ : ∃ u, u = t.b.fav := ⟨_, rfl⟩
  obtain ⟨s, hs⟩ : ∃ s, s = (x.second == -1) := ⟨_, rfl⟩
  rw [← hr]
  rw [← hu] at hb4
  have Hr := Lib.hid hr
  have Hu := Lib.hid hu
  have Hs := Lib.hid hs
  clear hr hu hs
  cases r with
  | true =>
    go_wp2_with (fail)
    refine bodyPost_ret (on_results _ _ (w.heap.size + 2) (.int .i64 x.first) (.int .i64 x.second) true _ HW.out.1 (by simp) (by simp)) rfl ⟨ret_on (by unfold s1T toHeir; rw [← Hr.out]; rfl) (by unfold okT; rw [← Hr.out]; rfl), HW.out.2⟩
  | false =>
    cases u with
    | false =>
      go_wp2_with (fail)
      refine bodyPost_ret (on_results _ _ (w.heap.size + 2) (.int .i64 x.first) (.int .i64 x.second) false _ HW.out.1 (by simp) (by simp)) rfl ⟨ret_on (by unfold s1T toHeir; rw [← Hr.out, ← Hu.out]; rfl) (by unfold okT toHeir; rw [← Hr.out, ← Hu.out]; rfl), HW.out.2⟩
    | true =>
      cases s with
      | false =>
        have hs := Hs.out.symm
        go_wp2_with (fail)
        refine bodyPost_ret (on_results _ _ (w.heap.size + 2) (.int .i64 x.first) (.int .i64 x.second) false _ HW.out.1 (by simp) (by simp)) rfl ⟨ret_on (by unfold s1T toHeir; rw [← Hr.out, ← Hu.out, ← Hs.out]; rfl) (by unfold okT toHeir; rw [← Hr.out, ← Hu.out, ← Hs.out]; rfl), HW.out.2⟩
      | true =>
        have hs := Hs.out.symm
        obtain ⟨c0, c1⟩ := HC.out
        go_wp2_with (fail)
        have e2 : x.second = -1 := by simpa using Hs.out.symm
        refine bodyPost_ret (on_results _ _ (w.heap.size + 2) (.int .i64 t.heir) (.int .i64 (-1)) true _ HV.out.1 (by simp) (by simp)) rfl ⟨(congrArg (fun z => Ending.returned (.tuple #[.agg #[.int .i64 t.heir, .int .i64 z], .bool true])) e2.symm).trans (ret_on (by unfold s1T toHeir; rw [← Hr.out, ← Hu.out, ← Hs.out]; rfl) (by unfold okT toHeir; rw [← Hr.out, ← Hu.out, ← Hs.out]; rfl)), HV.out.2⟩
end Go.Proofs.YtbahiemjaomdcaaGreat

/- pool: income, net. -/
namespace Go.Proofs.YtbahiemjaomdcaaGreat
open Go.RowKit Go.Shelf

attribute [local go_sem] Oper.semAt_some

def sumF (f : Bet → Bool) (bs : List Bet) : Int := (bs.map fun x => if f x = true then x.units else 0).sum
theorem sumF_take (f : Bet → Bool) (bs : List Bet) {k : Nat} (h : k < bs.length) {x : Bet} (hx : x = bs[k]?.getD noBet) :
    sumF f (bs.take (k + 1)) = sumF f (bs.take k) + (if f x = true then x.units else 0) := by
  rw [List.getElem?_eq_getElem h] at hx
  simp only [Option.getD_some] at hx
  subst hx
  unfold sumF
  rw [List.take_succ_eq_append_getElem h, List.map_append, List.sum_append]
  simp only [List.map_cons, List.map_nil, List.sum_cons, List.sum_nil, Int.add_zero]
theorem sumF_bound (f : Bet → Bool) : ∀ (bs : List Bet), (∀ x ∈ bs, 0 ≤ x.units ∧ x.units ≤ 1000) → 0 ≤ sumF f bs ∧ sumF f bs ≤ 1000 * (bs.length : Int)
  | [], _ => by simp [sumF]
  | y :: bs, h => by
    have ih := sumF_bound f bs fun x hx => h x (List.mem_cons_of_mem _ hx)
    have hy := h y (List.mem_cons_self)
    have e : sumF f (y :: bs) = (if f y = true then y.units else 0) + sumF f bs := by simp [sumF]
    rw [e, List.length_cons]
    split <;> omega
theorem sumF_le (f g : Bet → Bool) : ∀ (bs : List Bet), (∀ x ∈ bs, 0 ≤ x.units) → (∀ x, f x = true → g x = true) → sumF f bs ≤ sumF g bs
  | [], _, _ => by simp [sumF]
  | y :: bs, h, hi => by
    have ih := sumF_le f g bs (fun x hx => h x (List.mem_cons_of_mem _ hx)) hi
    have hy := h y (List.mem_cons_self)
    have e : ∀ f, sumF f (y :: bs) = (if f y = true then y.units else 0) + sumF f bs := fun f => by simp [sumF]
    rw [e, e]
    have := hi y
    by_cases h1 : f y = true
    · rw [if_pos h1, if_pos (this h1)]
      omega
    · rw [if_neg h1]
      split <;> omega
def allB (_ : Bet) : Bool := true
def notOn (t : Till) (x : Bet) : Bool := !okT t x
def incF' (U K c d : Int) : Acc := ⟨U * 100 + c, K * 100, ((U - K) * 100 * d).tdiv 1000, 0, 0, 0⟩
/-- What comes in. -/
def inF (t : Till) : Acc := incF' (sumF allB t.b.bets) (sumF (notOn t) t.b.bets) t.b.car t.b.dut
@[reducible] def accC (a : Acc) : Array Value := #[.int .i64 a.inn, .int .i64 a.back, .int .i64 a.duty, .int .i64 a.paid, .int .i64 a.kept, .int .i64 a.over]
theorem income_results (W : World) (tmps : Array Value) (k : Nat) (a : Acc) (T : TypeId) (h : Blk W k (accC a) T) (t : tmps.getD 2 undef = .pointer (some ⟨k, 0, none⟩)) :
    (results Tryz.f72 tmps).run Tryz.prog W = .ok (.agg (accC a)) W := by
  have c0 := h.cell 0
  have c1 := h.cell 1
  have c2 := h.cell 2
  have c3 := h.cell 3
  have c4 := h.cell 4
  have c5 := h.cell 5
  simp only [Array.getD_eq_getD_getElem?] at t
  simp at c0 c1 c2 c3 c4 c5
  simp [results, Tryz.results72, go_sem, t, c0, c1, c2, c3, c4, c5]
set_option maxRecDepth 100000 in
set_option maxHeartbeats 4000000 in
theorem income_any (w : World) (B : Nat) (t : Till) (A : Option Addr) (n c : Nat) (A2 : Option Addr) (m c2 : Nat) (h : BkAt w B t.b A n c A2 m c2) (hB : B ≤ w.heap.size)
    (hu : ∀ x ∈ t.b.bets, 0 ≤ x.units ∧ x.units ≤ 1000) (hn : t.b.bets.length ≤ 1000) (hc : 0 ≤ t.b.car ∧ t.b.car ≤ 1000000) (hd : 0 ≤ t.b.dut ∧ t.b.dut ≤ 500) :
    Calls Tryz.prog 72 #[tlV t A n c A2 m c2] w fun e w' => e = .returned (.agg (accC (inF t))) ∧ Below w.heap.size w w' := by
  have Hl := Lib.hid h.bets.1
  have hm : n ≤ 1000 := by rw [← h.bets.1]; exact hn
  go_enter Tryz.func72, Tryz.ntmps72
  go_wp2_with (fail)
  obtain ⟨W, hW⟩ : ∃ W, W = (w.alloc (.cells (tlC t A n c A2 m c2) 74)).alloc (.cells (accC ⟨0, 0, 0, 0, 0, 0⟩) 35) := ⟨_, rfl⟩
  have hN : W.heap.size = w.heap.size + 2 := by rw [hW]; simp
  have B0 : Below w.heap.size w W := by rw [hW]; exact ((Below.refl _ w).alloc (Nat.le_refl _) _).alloc (by simp) _
  have T0 : Blk W w.heap.size (tlC t A n c A2 m c2) 74 := by rw [hW]; exact (Blk.new w _ _).alloc _
  have Z0 : Blk W (w.heap.size + 1) (accC ⟨0, 0, 0, 0, 0, 0⟩) 35 := by
    have z := Blk.new (w.alloc (.cells (tlC t A n c A2 m c2) 74)) (accC ⟨0, 0, 0, 0, 0, 0⟩) 35
    rw [World.size_alloc] at z
    rw [hW]
    exact z
  rw [← hW]
  clear hW
  go_loopg [3, 4, 6, 7, 8, 14] n (fun g' v3 v4 _ _ _ v14 wr => ∃ k : Nat, (k ≤ n ∧ g' = n - k ∧ v14 = .int .i64 (k : Int)) ∧ v3 = .int .i64 (sumF allB (t.b.bets.take k)) ∧ v4 = .int .i64 (sumF (notOn t) (t.b.bets.take k)) ∧ Below w.heap.size w wr ∧ w.heap.size + 2 ≤ wr.heap.size ∧ Blk wr w.heap.size (tlC t A n c A2 m c2) 74 ∧ Blk wr (w.heap.size + 1) (accC ⟨0, 0, 0, 0, 0, 0⟩) 35)
  case atStart => exact ⟨0, ⟨by omega, rfl, rfl⟩, rfl, rfl, B0, by omega, T0, Z0⟩
  case round =>
    clear B0 T0 Z0 hN W
    obtain ⟨k, ⟨hk, rfl, rfl⟩, rfl, rfl, hb, hsz, T1, Z1⟩ := hrel
    by_cases hlt : k < n
    case neg =>
      obtain rfl : k = n := by omega
      obtain ⟨U, hU⟩ : ∃ U, U = sumF allB (t.b.bets.take k) := ⟨_, rfl⟩
      obtain ⟨K, hK⟩ : ∃ K, K = sumF (notOn t) (t.b.bets.take k) := ⟨_, rfl⟩
      have hlk : ((t.b.bets.take k).length : Int) ≤ 1000 := by rw [List.length_take]; omega
      have hub := sumF_bound allB (t.b.bets.take k) fun x hx => hu x (List.mem_of_mem_take hx)
      have hkb := sumF_bound (notOn t) (t.b.bets.take k) fun x hx => hu x (List.mem_of_mem_take hx)
      have hle := sumF_le (notOn t) allB (t.b.bets.take k) (fun x hx => (hu x (List.mem_of_mem_take hx)).1) fun _ _ => rfl
      rw [← hU] at hub hle
      rw [← hK] at hkb hle
      rw [← hU, ← hK]
      have HI := Lib.hid (show incF' U K t.b.car t.b.dut = inF t by
        unfold inF
        rw [hU, hK, List.take_of_length_le (by rw [Hl.out]; exact Nat.le_refl _)])
      have hmul : 0 ≤ (U - K) * 100 * t.b.dut ∧ (U - K) * 100 * t.b.dut ≤ 100000000 * 500 :=
        ⟨Int.mul_nonneg (by omega) hd.1, Int.mul_le_mul (by omega) hd.2 hd.1 (by omega)⟩
      have hq : 0 ≤ ((U - K) * 100 * t.b.dut).tdiv 1000 ∧ ((U - K) * 100 * t.b.dut).tdiv 1000 ≤ 100000000 * 500 := by
        rw [Int.tdiv_eq_ediv_of_nonneg hmul.1]
        omega
      have w1 : IntKind.i64.wrap (U * 100) = U * 100 := by rw [IntKind.wrap_i64]; omega
      have w2 : IntKind.i64.wrap (U * 100 + t.b.car) = U * 100 + t.b.car := by rw [IntKind.wrap_i64]; omega
      have w3 : IntKind.i64.wrap (K * 100) = K * 100 := by rw [IntKind.wrap_i64]; omega
      have w4 : IntKind.i64.wrap (U - K) = U - K := by rw [IntKind.wrap_i64]; omega
      have w5 : IntKind.i64.wrap ((U - K) * 100) = (U - K) * 100 := by rw [IntKind.wrap_i64]; omega
      have w6 : IntKind.i64.wrap ((U - K) * 100 * t.b.dut) = (U - K) * 100 * t.b.dut := by rw [IntKind.wrap_i64]; omega
      have w7 : IntKind.i64.wrap (((U - K) * 100 * t.b.dut).tdiv 1000) = ((U - K) * 100 * t.b.dut).tdiv 1000 := by rw [IntKind.wrap_i64]; omega
      have x5 : wr.cell? ⟨w.heap.size, 5, none⟩ = some (.int .i64 t.b.car) := T1.cell 5
      have x6 : wr.cell? ⟨w.heap.size, 6, none⟩ = some (.int .i64 t.b.dut) := T1.cell 6
      have z0 : wr.cell? ⟨w.heap.size + 1, 0, none⟩ = some (.int .i64 0) := Z1.cell 0
      have g0 := Z1.frozen 0
      have z1 : wr.cell? ⟨w.heap.size + 1, 1, none⟩ = some (.int .i64 0) := Z1.cell 1
      have g1 := Z1.frozen 1
      have z2 : wr.cell? ⟨w.heap.size + 1, 2, none⟩ = some (.int .i64 0) := Z1.cell 2
      have g2 := Z1.frozen 2
      have z3 : wr.cell? ⟨w.heap.size + 1, 3, none⟩ = some (.int .i64 0) := Z1.cell 3
      have g3 := Z1.frozen 3
      have z4 : wr.cell? ⟨w.heap.size + 1, 4, none⟩ = some (.int .i64 0) := Z1.cell 4
      have g4 := Z1.frozen 4
      have z5 : wr.cell? ⟨w.heap.size + 1, 5, none⟩ = some (.int .i64 0) := Z1.cell 5
      have g5 := Z1.frozen 5
      have HW := Lib.hid (And.intro ((((((Z1.set 0 (.int .i64 (U * 100 + t.b.car))).set 1 (.int .i64 (K * 100))).set 2 (.int .i64 (((U - K) * 100 * t.b.dut).tdiv 1000))).set 3 (.int .i64 0)).set 4 (.int .i64 0)).set 5 (.int .i64 0)) ((((((hb.setCell (p := ⟨w.heap.size + 1, 0, none⟩) (by simp) (.int .i64 (U * 100 + t.b.car))).setCell (p := ⟨w.heap.size + 1, 1, none⟩) (by simp) (.int .i64 (K * 100))).setCell (p := ⟨w.heap.size + 1, 2, none⟩) (by simp) (.int .i64 (((U - K) * 100 * t.b.dut).tdiv 1000))).setCell (p := ⟨w.heap.size + 1, 3, none⟩) (by simp) (.int .i64 0)).setCell (p := ⟨w.heap.size + 1, 4, none⟩) (by simp) (.int .i64 0)).setCell (p := ⟨w.heap.size + 1, 5, none⟩) (by simp) (.int .i64 0)))
      clear hU hK hlk hub hkb hle hmul hq Z1 T1 hb
      go_wp2_with (fail)
      exact bodyPost_ret (income_results _ _ (w.heap.size + 1) (incF' U K t.b.car t.b.dut) _ HW.out.1 (by simp)) rfl ⟨by rw [HI.out], HW.out.2⟩
    case pos =>
      have hwk : IntKind.i64.wrap ((k : Int) + 1) = (k : Int) + 1 := by rw [IntKind.wrap_i64]; omega
      obtain ⟨b3, o3, rfl, hb3, k0, k1, k2⟩ := (h.bets.below hb hB).at hlt
      obtain ⟨x, hxe⟩ : ∃ x, x = t.b.bets[k]?.getD noBet := ⟨_, rfl⟩
      rw [← hxe] at k0 k1 k2
      have hxm : x ∈ t.b.bets := by
        rw [List.getElem?_eq_getElem (by rw [Hl.out]; exact hlt)] at hxe
        rw [hxe]
        exact List.getElem_mem _
      have hU := sumF_take allB t.b.bets (by rw [Hl.out]; exact hlt) hxe
      have hK := sumF_take (notOn t) t.b.bets (by rw [Hl.out]; exact hlt) hxe
      have hlk : ((t.b.bets.take k).length : Int) ≤ 1000 := by rw [List.length_take]; omega
      have hub := sumF_bound allB (t.b.bets.take k) fun x hx => hu x (List.mem_of_mem_take hx)
      have hkb := sumF_bound (notOn t) (t.b.bets.take k) fun x hx => hu x (List.mem_of_mem_take hx)
      obtain ⟨U, hUe⟩ : ∃ U, U = sumF allB (t.b.bets.take k) := ⟨_, rfl⟩
      obtain ⟨K, hKe⟩ : ∃ K, K = sumF (notOn t) (t.b.bets.take k) := ⟨_, rfl⟩
      rw [← hUe] at hub hU
      rw [← hKe] at hkb hK
      rw [← hUe, ← hKe]
      have hux := hu x hxm
      have w1 : IntKind.i64.wrap (U + x.units) = U + x.units := by rw [IntKind.wrap_i64]; omega
      have w2 : IntKind.i64.wrap (K + x.units) = K + x.units := by rw [IntKind.wrap_i64]; omega
      have HU := Lib.hid (show U + x.units = sumF allB (t.b.bets.take (k + 1)) by rw [hU]; rfl)
      have HK := Lib.hid hK
      clear hU hK hlk hub hkb hUe hKe hux hxe
      have T := Lib.hid T1
      have x0 : wr.cell? ⟨w.heap.size, 0, none⟩ = some (.int .i64 t.b.kind) := T1.cell 0
      have x1 : wr.cell? ⟨w.heap.size, 1, none⟩ = some (.int .i64 t.b.runners) := T1.cell 1
      have x2 : wr.cell? ⟨w.heap.size, 2, none⟩ = some (.slice (some ⟨b3, o3, none⟩) n c) := T1.cell 2
      have x3 : wr.cell? ⟨w.heap.size, 3, none⟩ = some (.slice A2 m c2) := T1.cell 3
      have x4 : wr.cell? ⟨w.heap.size, 4, none⟩ = some (.bool t.b.fav) := T1.cell 4
      have x5 : wr.cell? ⟨w.heap.size, 5, none⟩ = some (.int .i64 t.b.car) := T1.cell 5
      have x6 : wr.cell? ⟨w.heap.size, 6, none⟩ = some (.int .i64 t.b.dut) := T1.cell 6
      have x7 : wr.cell? ⟨w.heap.size, 7, none⟩ = some (.int .i64 t.b.stp) := T1.cell 7
      have x8 : wr.cell? ⟨w.heap.size, 8, none⟩ = some (.int .i64 t.heir) := T1.cell 8
      have x9 : wr.cell? ⟨w.heap.size, 9, none⟩ = some (.int .i64 t.a.inn) := T1.cell 9
      have xA : wr.cell? ⟨w.heap.size, 10, none⟩ = some (.int .i64 t.a.back) := T1.cell 10
      have xB : wr.cell? ⟨w.heap.size, 11, none⟩ = some (.int .i64 t.a.duty) := T1.cell 11
      have xC : wr.cell? ⟨w.heap.size, 12, none⟩ = some (.int .i64 t.a.paid) := T1.cell 12
      have xD : wr.cell? ⟨w.heap.size, 13, none⟩ = some (.int .i64 t.a.kept) := T1.cell 13
      have xE : wr.cell? ⟨w.heap.size, 14, none⟩ = some (.int .i64 t.a.over) := T1.cell 14
      have hwt : w.heap.size < wr.heap.size := by omega
      clear T1
      go_wp2_with (fail)
      obtain ⟨W, hW⟩ : ∃ W, W = wr.alloc (.cells (betC x) 93) := ⟨_, rfl⟩
      have BW : Below wr.heap.size wr W := by rw [hW]; exact (Below.refl _ wr).alloc (Nat.le_refl _) _
      have Y : Blk W wr.heap.size (betC x) 93 := by rw [hW]; exact Blk.new wr _ _
      rw [← hW]
      clear hW x0 x1 x2 x3 x4 x5 x6 x7 x8 x9 xA xB xC xD xE k0 k1 k2
      have hb2 := hb.trans (BW.mono hb.size)
      refine (on_any W B t _ n c A2 m c2 x (h.scr.below hb2 hB) (Nat.le_trans hB hb2.size)).mono ?_
      rintro e w2 ⟨rfl, hb3'⟩
      have B3 := BW.trans (hb3'.mono BW.size)
      have hb4 := hb.trans (B3.mono hb.size)
      have T2 := T.out.up B3 T.out.lt
      have Z2 := Z1.up B3 Z1.lt
      have y2 : w2.cell? ⟨wr.heap.size, 2, none⟩ = some (.int .i64 x.units) := (Y.up hb3' Y.lt).cell 2
      have hyl : wr.heap.size < w2.heap.size := Nat.lt_of_lt_of_le Y.lt hb3'.size
      obtain ⟨r, hr⟩ : ∃ r, r = okT t x := ⟨_, rfl⟩
      rw [← hr]
      have Hr := Lib.hid hr
      clear hr hb3' BW Y W hb2 Z1 T B3 hb
      cases r with
      | true =>
        go_wp2_with (fail)
        go_roundg (n - (k + 1))
        case measure => omega
        case rel => exact ⟨k + 1, ⟨by omega, rfl, by simp⟩, by rw [HU.out], by rw [HK.out]; unfold notOn; rw [← Hr.out]; simp, hb4.alloc hb4.size _, by simp; omega, T2.alloc _, Z2.alloc _⟩
      | false =>
        go_wp2_with (fail)
        go_roundg (n - (k + 1))
        case measure => omega
        case rel => exact ⟨k + 1, ⟨by omega, rfl, by simp⟩, by rw [HU.out], by rw [HK.out]; unfold notOn; rw [← Hr.out]; simp, hb4.alloc hb4.size _, by simp; omega, T2.alloc _, Z2.alloc _⟩
end Go.Proofs.YtbahiemjaomdcaaGreat

/- pool: net, tillOf. -/
namespace Go.Proofs.YtbahiemjaomdcaaGreat
open Go.RowKit Go.Shelf

def netF (a : Acc) : Int := a.inn - a.back - a.duty
def AccOk (a : Acc) : Prop := (-1000000000000 ≤ a.inn ∧ a.inn ≤ 1000000000000) ∧ (-1000000000000 ≤ a.back ∧ a.back ≤ 1000000000000) ∧ (-1000000000000 ≤ a.duty ∧ a.duty ≤ 1000000000000)
theorem net_any (w : World) (t : Till) (A : Option Addr) (n c : Nat) (A2 : Option Addr) (m c2 : Nat) (h : AccOk t.a) :
    Calls Tryz.prog 67 #[tlV t A n c A2 m c2] w fun e w' => e = .returned (.int .i64 (netF t.a)) ∧ Below w.heap.size w w' := by
  refine enter 14 Tryz.func67 (by kernel_rfl) fun hA => ?_
  refine runS hA 23 [.k 0, .k 0, .k 0] xn on (by kernel_rfl) fun w1 hA => ?_
  obtain ⟨h1, h2, h3⟩ := h
  exact ret (v := .int .i64 (IntKind.i64.wrap ((IntKind.i64.wrap (t.a.inn - t.a.back)) - t.a.duty))) hA [] (by kernel_rfl) ⟨by rw [show IntKind.i64.wrap (t.a.inn - t.a.back) = t.a.inn - t.a.back by rw [IntKind.wrap_i64]; omega, show IntKind.i64.wrap (t.a.inn - t.a.back - t.a.duty) = netF t.a by rw [IntKind.wrap_i64]; unfold netF; omega], hA.below⟩
def acc0 : Acc := ⟨0, 0, 0, 0, 0, 0⟩
def zeroB : Bk := ⟨0, 0, [], [], false, 0, 0, 0⟩
def zeroT : Till := ⟨zeroB, 0, acc0⟩
/-- The till of a book. -/
def tilF (b : Bk) : Till := ⟨b, favF b, inF ⟨b, favF b, acc0⟩⟩
def tilV (b : Bk) (A : Option Addr) (n c : Nat) (A2 : Option Addr) (m c2 : Nat) : Value := if bookF b = 0 then tlV (tilF b) A n c A2 m c2 else tlV zeroT none 0 0 none 0 0
set_option maxRecDepth 20000 in
theorem tillOf_any (w : World) (B : Nat) (b : Bk) (A : Option Addr) (n c : Nat) (A2 : Option Addr) (m c2 : Nat) (h : BkAt w B b A n c A2 m c2) (hB : B ≤ w.heap.size) :
    Calls Tryz.prog 46 #[bkV b A n c A2 m c2] w fun e w' => e = .returned (.tuple #[tilV b A n c A2 m c2, .int .i64 (bookF b)]) ∧ Below w.heap.size w w' := by
  refine enter 23 Tryz.func46 (by kernel_rfl) fun hA => ?_
  refine runS hA 11 (List.replicate 8 (.k 0)) xn on (by kernel_rfl) fun w1 hA => ?_
  refine callB hA [] on (checkBook_any w1 B b A n c A2 m c2 (h.below hA.below hB) (Nat.le_trans hB hA.size)) (by kernel_rfl) fun w2 hb2 hA => ?_
  by_cases h0 : bookF b = 0
  case neg =>
    refine runS hA 20 ([.b true] ++ List.replicate 15 (.k 1)) xn (oc (ne_t h0) on) (by kernel_rfl) fun w3 hA => ?_
    exact ret (v := .tuple #[.agg #[.int .i64 0, .int .i64 0, .slice none 0 0, .slice none 0 0, .bool false, .int .i64 0, .int .i64 0, .int .i64 0, .int .i64 0, .int .i64 0, .int .i64 0, .int .i64 0, .int .i64 0, .int .i64 0, .int .i64 0], .int .i64 (bookF b)]) hA (List.replicate 15 (.k 1)) (by kernel_rfl) ⟨by rw [show tilV b A n c A2 m c2 = tlV zeroT none 0 0 none 0 0 from if_neg h0]; rfl, hA.below⟩
  case pos =>
    have V := valid_of h0
    have hv1 := V.run
    have hv2 := V.len
    refine runS hA 25 ([.b false] ++ List.replicate 8 (.k 0) ++ List.replicate 23 (.k 2)) xn (oc (ne_f h0) on) (by kernel_rfl) fun w3 hA => ?_
    refine callB hA [] on (favourite_any w3 B b A n c A2 m c2 (h.below hA.below hB) (Nat.le_trans hB hA.size) (by omega) (fun x hx => by have := (V.first hx).2; omega) (fun x hx => by have := (V.first hx).1; omega) (by omega) V.racing) (by kernel_rfl) fun w4 hb4 hA => ?_
    refine runS hA 7 (List.replicate 16 (.k 2)) xn on (by kernel_rfl) fun w5 hA => ?_
    refine callB hA [] on (income_any w5 B ⟨b, favF b, acc0⟩ A n c A2 m c2 (h.below hA.below hB) (Nat.le_trans hB hA.size) (fun x hx => by have := (V.first hx).2; omega) (by show b.bets.length ≤ 1000; omega) V.car V.dut) (by kernel_rfl) fun w6 hb6 hA => ?_
    refine runS hA 12 (List.replicate 21 (.k 2) ++ List.replicate 15 (.k 1)) xn on (by kernel_rfl) fun w7 hA => ?_
    exact ret (v := .tuple #[.agg #[.int .i64 b.kind, .int .i64 b.runners, .slice A n c, .slice A2 m c2, .bool b.fav, .int .i64 b.car, .int .i64 b.dut, .int .i64 b.stp, .int .i64 (favF b), .int .i64 ((inF ⟨b, favF b, acc0⟩).inn), .int .i64 ((inF ⟨b, favF b, acc0⟩).back), .int .i64 ((inF ⟨b, favF b, acc0⟩).duty), .int .i64 ((inF ⟨b, favF b, acc0⟩).paid), .int .i64 ((inF ⟨b, favF b, acc0⟩).kept), .int .i64 ((inF ⟨b, favF b, acc0⟩).over)], .int .i64 0]) hA (List.replicate 15 (.k 1)) (by kernel_rfl) ⟨by rw [show tilV b A n c A2 m c2 = tlV (tilF b) A n c A2 m c2 from if_pos h0, h0]; rfl, hA.below⟩
end Go.Proofs.YtbahiemjaomdcaaGreat

/- pool: the iterators singles$1 and pairs$1. -/
namespace Go.Proofs.YtbahiemjaomdcaaGreat
open Go.RowKit Go.Shelf

def spotV (x : Int × Int) : Value := .agg #[.int .i64 x.1, .int .i64 x.2]
def encS (x : Int × Int) : Array Value := #[spotV x]
theorem Keep.cell {n₀ : Nat} {C X : Nat → Prop} {w w' : World} {p : Addr} {v : Value} (h : Keep n₀ C X w w') (hb : p.block < n₀ ∨ C p.block) (hv : w.cell? p = some v) : w'.cell? p = some v := by
  rcases hb with hb | hb
  · exact (h.below.cell hb).trans hv
  · have hh : w'.heap[p.block]? = w.heap[p.block]? := by
      cases ho : w.heap[p.block]? with
      | none => unfold World.cell? at hv; rw [ho] at hv; cases hv
      | some o => exact h.same _ o ho (.inr hb)
    unfold World.cell? at hv ⊢
    rw [hh]
    exact hv
theorem Keep.ints {n₀ B : Nat} {C X : Nat → Prop} {w w' : World} {A : Option Addr} {n : Nat} {xs : List Int} (h : Keep n₀ C X w w') (hx : IntsAt w B A n xs) (hA : ∀ b off, A = some ⟨b, off, none⟩ → 0 < n → b < n₀ ∨ C b) : IntsAt w' B A n xs :=
  ⟨hx.1, hx.2.1, fun h0 => by
    obtain ⟨b, off, e, hb, hc⟩ := hx.2.2 h0
    exact ⟨b, off, e, hb, fun j hj => h.cell (p := ⟨b, off + j, none⟩) (hA b off e h0) (hc j hj)⟩⟩
/-- The runners, each alone. -/
def sinF (xs : List Int) : List (Int × Int) := xs.map fun x => (x, -1)
theorem sinF_len (xs : List Int) : (sinF xs).length = xs.length := by simp [sinF]
theorem take_step {α : Type} {l : List α} {k : Nat} {x : α} (h : l[k]? = some x) : l.take k ++ [x] = l.take (k + 1) := by
  rw [List.take_add_one, h]; rfl
theorem sinF_take {xs : List Int} {k : Nat} (h : k < xs.length) : (sinF xs).take k ++ [(xs[k]?.getD 0, -1)] = (sinF xs).take (k + 1) := by
  refine take_step ?_
  unfold sinF
  rw [List.getElem?_map, List.getElem?_eq_getElem h]
  rfl
set_option maxRecDepth 20000 in
theorem singles1_it (w : World) (n₀ B bx : Nat) (A : Option Addr) (n c : Nat) (xs : List Int) (C : Nat → Prop) (hx : IntsAt w B A n xs) (hB : B ≤ w.heap.size) (hn₀ : n₀ ≤ w.heap.size) (hn : n ≤ 1000000)
    (hbc : w.cell? ⟨bx, 0, none⟩ = some (.slice A n c)) (hbl : bx < w.heap.size) (hAC : ∀ b off, A = some ⟨b, off, none⟩ → 0 < n → b < n₀ ∨ C b) :
    IterAt Tryz.prog 89 #[.pointer (some ⟨bx, 0, none⟩)] encS n₀ C (fun l => l = sinF xs) (fun _ => True) n w := by
  intro l U Ux W hb hU hUx hY h0
  have hbW : Below (cutW w n₀).heap.size (cutW w n₀) W := cut_below hn₀ (hb.mono hn₀)
  refine enterK 17 Tryz.func89 (by kernel_rfl) (At.plain hbW) fun hA => ?_
  refine rebase hA W (by kernel_rfl) (At.start _) fun hA => ?_
  have hzW := hb.size
  refine runS hA 8 [.x (.slice A n c)] (xc (a := ⟨bx, 0, none⟩) ⟨Nat.lt_of_lt_of_le hbl hzW, (hb.cell hbl).trans hbc⟩ xn) on (by kernel_rfl) fun w1 hA => ?_
  have hb1 : Below W.heap.size W w1 := hA.below
  have hz1 := hb1.size
  have hU1 := hU _ _ _ _ _ h0 (St.of_below hb1) (Grows.refl _ _)
  have hx1 := (hx.below hb hB).below hb1 (Nat.le_trans hB hzW)
  refine back hA (by kernel_rfl) (At.plain (hbW.trans (hb1.mono hbW.size))) fun hA => ?_
  refine loop (γ := Nat) (fun k => [(0, .func (.yield l) #[] #[]), (5, .slice A n c), (6, .int .i64 n), (7, .int .i64 (k : Int))]) (fun k => []) (fun _ => []) (fun g k wr => k ≤ n ∧ g = n - k ∧ U ((sinF xs).take k) noBlock wr ∧ IntsAt wr B A n xs ∧ W.heap.size ≤ wr.heap.size) n 0 [] hA (by kernel_rfl) (⟨by omega, rfl, hU1, hx1, hz1⟩) ?_
  rintro _ k wr ⟨hk, rfl, hUk, hxr, hzr⟩ J hJ hA
  have hbr := hA.below
  by_cases hlt : k < n
  case pos =>
    obtain ⟨b, off, rfl, hbB, hc⟩ := hxr.cell hlt
    have hc' : b < wr.heap.size ∧ wr.cell? ⟨b, off + k * 1, none⟩ = some (.int .i64 (xs[k]?.getD 0)) := ⟨by omega, by simpa using hc⟩
    refine rebase hA wr (by kernel_rfl) (At.start _) fun hA => ?_
    refine runS hA 23 [.b true, .i, .x (.int .i64 (xs[k]?.getD 0))] (xc (a := ⟨b, off + k * 1, none⟩) hc' xn) (oc (dec_t (show (((k : Int) : Int) < (n : Int)) by omega)) (oc (show (0 : Int) ≤ ((k : Int) : Int) ∧ ((k : Int) : Int) < (n : Int) by omega) on)) (by kernel_rfl) fun w2 hA => ?_
    have hb2 : Below wr.heap.size wr w2 := hA.below
    have hU2 := hU _ _ _ _ _ hUk (St.of_below hb2) (Grows.refl _ _)
    have hx2 := hxr.below hb2 (by omega)
    have hz2 := hb2.size
    refine back hA (by kernel_rfl) (At.plain (hbr.trans (hb2.mono hbr.size))) fun hA => ?_
    refine yieldS (kn' := []) (l := l) (n₀ := n₀) (B := W.heap.size) (X := noBlock) (C := C) (T := fun w' => U ((sinF xs).take k ++ [(xs[k]?.getD 0, -1)]) noBlock w') (F := fun w' => Ux ((sinF xs).take k ++ [(xs[k]?.getD 0, -1)]) noBlock w') hA [] on [] rfl (by kernel_rfl) (cut_size hn₀).symm (hY _ _ _ _ hU2 (Nat.le_trans hzr hz2) (fun _ h => h.elim) (by rw [List.length_take, sinF_len, hx.1]; omega)) (by simp) (fun wy hT hkp hA => ?_) (fun wy hT hkp hA => ?_)
    ·
      have hby := hA.below
      have hz3 := hkp.below.size
      refine rebase hA wy (by kernel_rfl) (At.start _) fun hA => ?_
      refine runS hA 11 [] xn on (by kernel_rfl) fun w3 hA => ?_
      have hb4 : Below wy.heap.size wy w3 := hA.below
      have hz4 := hb4.size
      have hU4 := hU _ _ _ _ _ hT (St.of_below hb4) (Grows.refl _ _)
      rw [sinF_take (by rw [hx.1]; exact hlt)] at hU4
      have hx4 := (hkp.ints hx2 hAC).below hb4 (by omega)
      refine back hA (by kernel_rfl) (At.plain (hby.trans (hb4.mono hby.size))) fun hA => ?_
      refine revals hA (rc 7 (wr64 (x := (k : Int) + 1) (y := ((k + 1 : Nat) : Int)) (by omega) (by omega)) rn) (by kernel_rfl) fun hA => ?_
      exact again hJ (n - (k + 1)) (k + 1) [] hA (by omega) (by kernel_rfl) (⟨by omega, rfl, hU4, hx4, by omega⟩)
    ·
      have hby := hA.below
      have hz3 := hkp.below.size
      refine rebase hA wy (by kernel_rfl) (At.start _) fun hA => ?_
      refine runS hA 7 [] xn on (by kernel_rfl) fun w3 hA => ?_
      have hb4 : Below wy.heap.size wy w3 := hA.below
      have hz4 := hb4.size
      have hU4 := hUx _ _ _ _ _ hT (St.of_below hb4) (Grows.refl _ _)
      refine back hA (by kernel_rfl) (At.plain (hby.trans (hb4.mono hby.size))) fun hA => ?_
      refine leave hA (by kernel_rfl) fun hA => ?_
      have hby := hA.below
      refine rebase hA w3 (by kernel_rfl) (At.start _) fun hA => ?_
      refine runS hA 1 [] xn on (by kernel_rfl) fun w4 hA => ?_
      have hb5 : Below w3.heap.size w3 w4 := hA.below
      have hU5 := hUx _ _ _ _ _ hU4 (St.of_below hb5) (Grows.refl _ _)
      refine back hA (by kernel_rfl) (At.plain (hby.trans (hb5.mono hby.size))) fun hA => ?_
      exact ret (v := .tuple #[]) hA [] (by kernel_rfl) ⟨⟨_, rfl⟩, noBlock, .inr ⟨_, trivial, hU5⟩⟩
  case neg =>
    have hkn : k = n := by omega
    refine rebase hA wr (by kernel_rfl) (At.start _) fun hA => ?_
    refine runS hA 9 [.b false] xn (oc (dec_f (show ¬ (((k : Int) : Int) < (n : Int)) by omega)) on) (by kernel_rfl) fun w2 hA => ?_
    have hb2 : Below wr.heap.size wr w2 := hA.below
    have hU2 := hU _ _ _ _ _ hUk (St.of_below hb2) (Grows.refl _ _)
    refine back hA (by kernel_rfl) (At.plain (hbr.trans (hb2.mono hbr.size))) fun hA => ?_
    refine leave hA (by kernel_rfl) fun hA => ?_
    have hby := hA.below
    refine rebase hA w2 (by kernel_rfl) (At.start _) fun hA => ?_
    refine runS hA 1 [] xn on (by kernel_rfl) fun w3 hA => ?_
    have hb3 : Below w2.heap.size w2 w3 := hA.below
    have hU3 := hU _ _ _ _ _ hU2 (St.of_below hb3) (Grows.refl _ _)
    refine back hA (by kernel_rfl) (At.plain (hby.trans (hb3.mono hby.size))) fun hA => ?_
    exact ret (v := .tuple #[]) hA [] (by kernel_rfl) ⟨⟨_, rfl⟩, noBlock, .inl ⟨_, rfl, by rwa [List.take_of_length_le (by rw [sinF_len, hx.1]; omega)] at hU3⟩⟩
end Go.Proofs.YtbahiemjaomdcaaGreat

/- pool: which pairs win. -/
namespace Go.Proofs.YtbahiemjaomdcaaGreat
open Go.RowKit Go.Shelf

theorem containsB (w : World) (B : Nat) (A : Option Addr) (n c : Nat) (xs : List Int) (x : Int) (hx : IntsAt w B A n xs) :
    Calls Tryz.prog 65 #[.slice A n c, .int .i64 x] w fun e w' => e = .returned (.bool (decide (x ∈ xs))) ∧ Below w.heap.size w w' :=
  (contains_any w B A n c xs x hx).mono fun e w' h => ⟨h.1, by rw [h.2]; exact Below.refl _ _⟩
/-- Which pairs win in their order, and in any order. -/
def pairF (first : List Int) (s : Int × Int) : Bool := decide (s.1 ≠ s.2) && decide (s.1 ∈ first)
def bothF (first : List Int) (s : Int × Int) : Bool := decide (s.1 < s.2) && (decide (s.1 ∈ first) || decide (s.2 ∈ first))
set_option maxRecDepth 20000 in
theorem winners1_any (w : World) (B bf : Nat) (A : Option Addr) (n c : Nat) (xs : List Int) (s : Int × Int) (hx : IntsAt w B A n xs) (hB : B ≤ w.heap.size) (hbl : bf < w.heap.size) (hbc : w.cell? ⟨bf, 0, none⟩ = some (.slice A n c)) :
    Calls Tryz.prog 64 #[spotV s, .pointer (some ⟨bf, 0, none⟩)] w fun e w' => e = .returned (.bool (pairF xs s)) ∧ Below w.heap.size w w' := by
  refine enter 15 Tryz.func64 (by kernel_rfl) fun hA => ?_
  by_cases h1 : s.1 = s.2
  case pos =>
    refine runS hA 23 [.k 0, .k 0, .g false] xn (oc (ne_f h1) on) (by kernel_rfl) fun w1 hA => ?_
    exact ret (v := .bool false) hA [] (by kernel_rfl) ⟨by simp [pairF, h1], hA.below⟩
  case neg =>
    refine runS hA 17 [.k 0, .k 0, .g true, .x (.slice A n c), .k 0] (xc (a := ⟨bf, 0, none⟩) ⟨hbl, hbc⟩ xn) (oc (ne_t h1) on) (by kernel_rfl) fun w1 hA => ?_
    refine callB hA [] on (containsB w1 B A n c xs s.1 (hx.below hA.below hB)) (by kernel_rfl) fun w2 hb2 hA => ?_
    refine runS hA 5 [] xn on (by kernel_rfl) fun w3 hA => ?_
    exact ret (v := .bool (decide (s.1 ∈ xs))) hA [] (by kernel_rfl) ⟨by simp [pairF, h1], hA.below⟩
set_option maxRecDepth 20000 in
theorem winners2_any (w : World) (B bf : Nat) (A : Option Addr) (n c : Nat) (xs : List Int) (s : Int × Int) (hx : IntsAt w B A n xs) (hB : B ≤ w.heap.size) (hbl : bf < w.heap.size) (hbc : w.cell? ⟨bf, 0, none⟩ = some (.slice A n c)) :
    Calls Tryz.prog 66 #[spotV s, .pointer (some ⟨bf, 0, none⟩)] w fun e w' => e = .returned (.bool (bothF xs s)) ∧ Below w.heap.size w w' := by
  refine enter 21 Tryz.func66 (by kernel_rfl) fun hA => ?_
  by_cases h1 : s.1 < s.2
  case neg =>
    refine runS hA 29 [.k 0, .k 0, .g false] xn (oc (dec_f h1) on) (by kernel_rfl) fun w1 hA => ?_
    exact ret (v := .bool false) hA [] (by kernel_rfl) ⟨by simp [bothF, h1], hA.below⟩
  case pos =>
    refine runS hA 17 [.k 0, .k 0, .g true, .x (.slice A n c), .k 0] (xc (a := ⟨bf, 0, none⟩) ⟨hbl, hbc⟩ xn) (oc (dec_t h1) on) (by kernel_rfl) fun w1 hA => ?_
    refine callB hA [] on (containsB w1 B A n c xs s.1 (hx.below hA.below hB)) (by kernel_rfl) fun w2 hb2 hA => ?_
    by_cases h2 : s.1 ∈ xs
    case pos =>
      refine revals hA (rc 13 (dec_t h2) rn) (by kernel_rfl) fun hA => ?_
      refine runS hA 11 [] xn on (by kernel_rfl) fun w3 hA => ?_
      exact ret (v := .bool true) hA [] (by kernel_rfl) ⟨by simp [bothF, h1, h2], hA.below⟩
    case neg =>
      refine revals hA (rc 13 (dec_f h2) rn) (by kernel_rfl) fun hA => ?_
      refine runS hA 4 [.x (.slice A n c), .k 0] (xc (a := ⟨bf, 0, none⟩) ⟨hbl, hbc⟩ xn) on (by kernel_rfl) fun w3 hA => ?_
      refine callB hA [] on (containsB w3 B A n c xs s.2 (hx.below hA.below hB)) (by kernel_rfl) fun w4 hb4 hA => ?_
      refine runS hA 6 [] xn on (by kernel_rfl) fun w5 hA => ?_
      exact ret (v := .bool (decide (s.2 ∈ xs))) hA [] (by kernel_rfl) ⟨by simp [bothF, h1, h2], hA.below⟩
end Go.Proofs.YtbahiemjaomdcaaGreat

/- pool: the iterator pairs$1. -/
namespace Go.Proofs.YtbahiemjaomdcaaGreat
open Go.RowKit Go.Shelf

/-- The pairs with one as the first that win. -/
def rowW (p : Int × Int → Bool) (ys : List Int) (one : Int) : List (Int × Int) := (ys.map fun two => (one, two)).filter p
def prsF (p : Int × Int → Bool) (xs : List Int) : List (Int × Int) := xs.flatMap fun one => rowW p xs one
/-- What has been yielded before the second one comes to place j behind the first one at place k. -/
def preW (p : Int × Int → Bool) (xs : List Int) (k j : Nat) : List (Int × Int) := (xs.take k).flatMap (fun one => rowW p xs one) ++ rowW p (xs.take j) (xs[k]?.getD 0)
theorem preW_zero (p : Int × Int → Bool) (xs : List Int) : preW p xs 0 0 = [] := by simp [preW, rowW]
theorem rowW_step (p : Int × Int → Bool) {xs : List Int} {j : Nat} (h : j < xs.length) (one : Int) : rowW p (xs.take (j + 1)) one = rowW p (xs.take j) one ++ (if p (one, xs[j]?.getD 0) = true then [(one, xs[j]?.getD 0)] else []) := by
  unfold rowW
  rw [List.take_add_one, List.getElem?_eq_getElem h, Option.toList_some, List.map_append, List.filter_append, List.map_cons, List.map_nil, List.filter_cons, List.filter_nil]
  rfl
theorem preW_row (p : Int × Int → Bool) {xs : List Int} {k j : Nat} (h : k < xs.length) (hj : xs.length ≤ j) : preW p xs k j = preW p xs (k + 1) 0 := by
  unfold preW
  rw [List.take_of_length_le hj, List.take_add_one, List.getElem?_eq_getElem h, List.flatMap_append, show rowW p (xs.take 0) (xs[k + 1]?.getD 0) = [] from by simp [rowW], List.append_nil]
  simp only [Option.toList_some, List.flatMap_cons, List.flatMap_nil, List.append_nil, Option.getD_some]
theorem preW_no {p : Int × Int → Bool} {xs : List Int} {k j : Nat} (h : j < xs.length) (hp : p (xs[k]?.getD 0, xs[j]?.getD 0) = false) : preW p xs k (j + 1) = preW p xs k j := by
  unfold preW
  rw [rowW_step p h, if_neg (by rw [hp]; decide), List.append_nil]
theorem preW_yes {p : Int × Int → Bool} {xs : List Int} {k j : Nat} (h : j < xs.length) (hp : p (xs[k]?.getD 0, xs[j]?.getD 0) = true) : preW p xs k j ++ [(xs[k]?.getD 0, xs[j]?.getD 0)] = preW p xs k (j + 1) := by
  unfold preW
  rw [rowW_step p h, if_pos hp, List.append_assoc]
theorem preW_sub (p : Int × Int → Bool) {xs : List Int} {k j : Nat} (h : k < xs.length) : (preW p xs k j).Sublist (prsF p xs) := by
  have h1 : (preW p xs k j).Sublist (preW p xs k xs.length) := by
    unfold preW rowW
    rw [List.take_length]
    exact List.Sublist.append_left ((List.take_sublist j xs).map _ |>.filter _) _
  refine h1.trans ?_
  rw [preW_row p h (Nat.le_refl _)]
  have h2 : prsF p xs = (xs.take (k + 1)).flatMap (fun one => rowW p xs one) ++ (xs.drop (k + 1)).flatMap (fun one => rowW p xs one) := by
    rw [← List.flatMap_append, List.take_append_drop]
    rfl
  unfold preW
  rw [h2, show rowW p (xs.take 0) (xs[k + 1]?.getD 0) = [] from by simp [rowW], List.append_nil]
  exact List.sublist_append_left _ _
theorem preW_len (p : Int × Int → Bool) {xs : List Int} {k j : Nat} (h : k < xs.length) (hj : j < xs.length) (hp : p (xs[k]?.getD 0, xs[j]?.getD 0) = true) : (preW p xs k j).length < (prsF p xs).length := by
  have := (preW_sub p (j := j + 1) h).length_le
  rw [← preW_yes hj hp, List.length_append] at this
  simp at this
  omega
theorem preW_all (p : Int × Int → Bool) {xs : List Int} {k : Nat} (h : xs.length ≤ k) : preW p xs k 0 = prsF p xs := by
  unfold preW prsF
  rw [List.take_of_length_le h]
  simp [rowW]
/-- What pairs$1 reads. -/
structure PrsI (B bx bw bf : Nat) (gv : Value) (A : Option Addr) (n c : Nat) (xs : List Int) (A2 : Option Addr) (m c2 : Nat) (ys : List Int) (z : Nat) (w : World) : Prop where
  x : IntsAt w B A n xs
  y : IntsAt w B A2 m ys
  bx : w.cell? ⟨bx, 0, none⟩ = some (.slice A n c)
  bw : w.cell? ⟨bw, 0, none⟩ = some gv
  bf : w.cell? ⟨bf, 0, none⟩ = some (.slice A2 m c2)
  size : z ≤ w.heap.size
section
variable {B bx bw bf : Nat} {gv : Value} {A : Option Addr} {n c : Nat} {xs : List Int} {A2 : Option Addr} {m c2 : Nat} {ys : List Int} {z : Nat} {w w' : World}
theorem PrsI.up (h : PrsI B bx bw bf gv A n c xs A2 m c2 ys z w) (hb : Below w.heap.size w w') (hB : B ≤ z) (h1 : bx < z) (h2 : bw < z) (h3 : bf < z) : PrsI B bx bw bf gv A n c xs A2 m c2 ys z w' := by
  have hz := h.size
  exact ⟨h.x.below hb (by omega), h.y.below hb (by omega), (hb.cell (by show bx < _; omega)).trans h.bx, (hb.cell (by show bw < _; omega)).trans h.bw, (hb.cell (by show bf < _; omega)).trans h.bf, Nat.le_trans hz hb.size⟩
theorem PrsI.kept {n₀ : Nat} {C X : Nat → Prop} (h : PrsI B bx bw bf gv A n c xs A2 m c2 ys z w) (hk : Keep n₀ C X w w') (h1 : C bx) (h2 : C bw) (h3 : C bf) (hA : ∀ b off, A = some ⟨b, off, none⟩ → 0 < n → b < n₀ ∨ C b) (hA2 : ∀ b off, A2 = some ⟨b, off, none⟩ → 0 < m → b < n₀ ∨ C b) :
    PrsI B bx bw bf gv A n c xs A2 m c2 ys z w' :=
  ⟨hk.ints h.x hA, hk.ints h.y hA2, hk.cell (.inr h1) h.bx, hk.cell (.inr h2) h.bw, hk.cell (.inr h3) h.bf, Nat.le_trans h.size hk.below.size⟩
end
set_option maxRecDepth 20000 in
theorem pairs1_it1 (w : World) (n₀ B bx bw bf : Nat) (A : Option Addr) (n c : Nat) (xs : List Int) (A2 : Option Addr) (m c2 : Nat) (ys : List Int) (z : Nat) (C : Nat → Prop) (hi : PrsI B bx bw bf (.func (.func 64) #[] #[.pointer (some ⟨bf, 0, none⟩)]) A n c xs A2 m c2 ys z w) (hB : B ≤ z) (hn₀ : n₀ ≤ w.heap.size) (hn : n ≤ 1000000)
    (hbl : bx < z) (hwl : bw < z) (hfl : bf < z) (hC1 : C bx) (hC2 : C bw) (hC3 : C bf) (hAC : ∀ b off, A = some ⟨b, off, none⟩ → 0 < n → b < n₀ ∨ C b) (hAC2 : ∀ b off, A2 = some ⟨b, off, none⟩ → 0 < m → b < n₀ ∨ C b) :
    IterAt Tryz.prog 90 #[.pointer (some ⟨bx, 0, none⟩), .pointer (some ⟨bw, 0, none⟩)] encS n₀ C (fun l => l = prsF (pairF ys) xs) (fun _ => True) (prsF (pairF ys) xs).length w := by
  intro l U Ux W hb hU hUx hY h0
  have hbW : Below (cutW w n₀).heap.size (cutW w n₀) W := cut_below hn₀ (hb.mono hn₀)
  have hz0 := hi.size
  have hbz := hb.size
  have hi0 := hi.up hb (by omega) hbl hwl hfl
  refine enterK 35 Tryz.func90 (by kernel_rfl) (At.plain hbW) fun hA => ?_
  refine rebase hA W (by kernel_rfl) (At.start _) fun hA => ?_
  have hcx : bx < W.heap.size ∧ W.cell? ⟨bx, 0, none⟩ = some (.slice A n c) := ⟨by omega, hi0.bx⟩
  refine runS hA 8 [.x (.slice A n c)] (xc (a := ⟨bx, 0, none⟩) hcx xn) on (by kernel_rfl) fun w1 hA => ?_
  have hb1 : Below W.heap.size W w1 := hA.below
  have hU1 := hU _ _ _ _ _ h0 (St.of_below hb1) (Grows.refl _ _)
  have hi1 := hi0.up hb1 (by omega) hbl hwl hfl
  refine back hA (by kernel_rfl) (At.plain (hbW.trans (hb1.mono hbW.size))) fun hA => ?_
  refine loop (γ := Nat) (fun k => [(0, .func (.yield l) #[] #[]), (1, .pointer (some ⟨bx, 0, none⟩)), (2, .pointer (some ⟨bw, 0, none⟩)), (9, .slice A n c), (10, .int .i64 n), (11, .int .i64 (k : Int))]) (fun k => []) (fun _ => []) (fun g k wr => k ≤ n ∧ g = n - k ∧ U (preW (pairF ys) xs k 0) noBlock wr ∧ PrsI B bx bw bf (.func (.func 64) #[] #[.pointer (some ⟨bf, 0, none⟩)]) A n c xs A2 m c2 ys z wr ∧ W.heap.size ≤ wr.heap.size) n 0 [] hA (by kernel_rfl) (⟨by omega, rfl, by rw [preW_zero]; exact hU1, hi1, hb1.size⟩) ?_
  rintro _ k wr ⟨hk, rfl, hUk, hir, hzr⟩ J hJ hA
  have hbr := hA.below
  have hzi := hir.size
  by_cases hlt : k < n
  case pos =>
    obtain ⟨b, off, rfl, hbB, hc⟩ := hir.x.cell hlt
    have hc' : b < wr.heap.size ∧ wr.cell? ⟨b, off + k * 1, none⟩ = some (.int .i64 (xs[k]?.getD 0)) := ⟨by omega, by simpa using hc⟩
    have hcx : bx < wr.heap.size ∧ wr.cell? ⟨bx, 0, none⟩ = some (.slice (some ⟨b, off, none⟩) n c) := ⟨by omega, hir.bx⟩
    refine rebase hA wr (by kernel_rfl) (At.start _) fun hA => ?_
    refine runS hA 26 [.b true, .i, .x (.int .i64 (xs[k]?.getD 0)), .x (.slice (some ⟨b, off, none⟩) n c)] (xc (a := ⟨b, off + k * 1, none⟩) hc' (xc (a := ⟨bx, 0, none⟩) hcx xn)) (oc (dec_t (show (((k : Int) : Int) < (n : Int)) by omega)) (oc (show (0 : Int) ≤ ((k : Int) : Int) ∧ ((k : Int) : Int) < (n : Int) by omega) on)) (by kernel_rfl) fun w2 hA => ?_
    have hb2 : Below wr.heap.size wr w2 := hA.below
    have hU2 := hU _ _ _ _ _ hUk (St.of_below hb2) (Grows.refl _ _)
    have hi2 := hir.up hb2 (by omega) hbl hwl hfl
    have hz2 := hb2.size
    refine back hA (by kernel_rfl) (At.plain (hbr.trans (hb2.mono hbr.size))) fun hA => ?_
    refine loop (γ := Nat) (fun j => [(0, .func (.yield l) #[] #[]), (1, .pointer (some ⟨bx, 0, none⟩)), (2, .pointer (some ⟨bw, 0, none⟩)), (5, .int .i64 (xs[k]?.getD 0)), (9, .slice (some ⟨b, off, none⟩) n c), (10, .int .i64 n), (11, .int .i64 (k : Int)), (15, .slice (some ⟨b, off, none⟩) n c), (16, .int .i64 n), (17, .int .i64 (j : Int))]) (fun j => []) (fun _ => []) (fun g j wt => j ≤ n ∧ g = n - j ∧ U (preW (pairF ys) xs k j) noBlock wt ∧ PrsI B bx bw bf (.func (.func 64) #[] #[.pointer (some ⟨bf, 0, none⟩)]) (some ⟨b, off, none⟩) n c xs A2 m c2 ys z wt ∧ W.heap.size ≤ wt.heap.size) n 0 [] hA (by kernel_rfl) (⟨by omega, rfl, hU2, hi2, by omega⟩) ?_
    rintro _ j wt ⟨hj, rfl, hUj, hit, hzt⟩ J2 hJ2 hA
    have hbt := hA.below
    have hzi2 := hit.size
    by_cases hlj : j < n
    case neg =>
      have hjn : j = n := by omega
      refine rebase hA wt (by kernel_rfl) (At.start _) fun hA => ?_
      refine runS hA 9 [.b false] xn (oc (dec_f (show ¬ (((j : Int) : Int) < (n : Int)) by omega)) on) (by kernel_rfl) fun w3 hA => ?_
      have hb3 : Below wt.heap.size wt w3 := hA.below
      have hU3 := hU _ _ _ _ _ hUj (St.of_below hb3) (Grows.refl _ _)
      rw [hjn, preW_row _ (by rw [hi.x.1]; exact hlt) (by rw [hi.x.1]; exact Nat.le_refl _)] at hU3
      have hi3 := hit.up hb3 (by omega) hbl hwl hfl
      have hz3 := hb3.size
      refine back hA (by kernel_rfl) (At.plain (hbt.trans (hb3.mono hbt.size))) fun hA => ?_
      refine leave hA (by kernel_rfl) fun hA => ?_
      have hbt := hA.below
      refine rebase hA w3 (by kernel_rfl) (At.start _) fun hA => ?_
      have hzz : w3.heap.size = w3.heap.size := rfl
      refine runS hA 7 [] xn on (by kernel_rfl) fun w4 hA => ?_
      have hb4 : Below w3.heap.size w3 w4 := hA.below
      have hU4 := hU _ _ _ _ _ hU3 (St.of_below hb4) (Grows.refl _ _)
      have hi4 := hi3.up hb4 (by omega) hbl hwl hfl
      have hz4 := hb4.size
      refine back hA (by kernel_rfl) (At.plain (hbt.trans (hb4.mono hbt.size))) fun hA => ?_
      refine revals hA (rc 11 (wr64 (x := (k : Int) + 1) (y := ((k + 1 : Nat) : Int)) (by omega) (by omega)) rn) (by kernel_rfl) fun hA => ?_
      exact again hJ (n - (k + 1)) (k + 1) [] hA (by omega) (by kernel_rfl) (⟨by omega, rfl, hU4, hi4, by omega⟩)
    case pos =>
      obtain ⟨b', off', eA, hbB2, hc2⟩ := hit.x.cell hlj
      injection eA with eA
      injection eA with e1 e2
      subst e1; subst e2
      have hc3 : b < wt.heap.size ∧ wt.cell? ⟨b, off + j * 1, none⟩ = some (.int .i64 (xs[j]?.getD 0)) := ⟨by omega, by simpa using hc2⟩
      have hcw : bw < wt.heap.size ∧ wt.cell? ⟨bw, 0, none⟩ = some (.func (.func 64) #[] #[.pointer (some ⟨bf, 0, none⟩)]) := ⟨by omega, hit.bw⟩
      refine rebase hA wt (by kernel_rfl) (At.start _) fun hA => ?_
      refine runS hA 31 [.b true, .i, .x (.int .i64 (xs[j]?.getD 0)), .k 0, .k 0, .x (.func (.func 64) #[] #[.pointer (some ⟨bf, 0, none⟩)]), .k 0, .k 0] (xc (a := ⟨b, off + j * 1, none⟩) hc3 (xc (a := ⟨bw, 0, none⟩) hcw xn)) (oc (dec_t (show (((j : Int) : Int) < (n : Int)) by omega)) (oc (show (0 : Int) ≤ ((j : Int) : Int) ∧ ((j : Int) : Int) < (n : Int) by omega) on)) (by kernel_rfl) fun w3 hA => ?_
      refine callB hA [] on (winners1_any w3 B bf A2 m c2 ys (xs[k]?.getD 0, xs[j]?.getD 0) (hit.y.below hA.below (by show B ≤ wt.heap.size; omega)) (by have : wt.heap.size ≤ w3.heap.size := hA.below.size; omega) (by have : wt.heap.size ≤ w3.heap.size := hA.below.size; omega) ((hA.below.cell (by show bf < wt.heap.size; omega)).trans hit.bf)) (by kernel_rfl) fun w4 hb4 hA => ?_
      rcases Bool.eq_false_or_eq_true (pairF ys (xs[k]?.getD 0, xs[j]?.getD 0)) with hp | hp
      case inr =>
        refine revals hA (rc 26 (congrArg Value.bool hp) rn) (by kernel_rfl) fun hA => ?_
        refine runS hA 16 [] xn on (by kernel_rfl) fun w5 hA => ?_
        have hb3 : Below wt.heap.size wt w5 := hA.below
        have hU3 := hU _ _ _ _ _ hUj (St.of_below hb3) (Grows.refl _ _)
        rw [← preW_no (by rw [hi.x.1]; exact hlj) hp] at hU3
        have hi3 := hit.up hb3 (by omega) hbl hwl hfl
        have hz3 := hb3.size
        refine back hA (by kernel_rfl) (At.plain (hbt.trans (hb3.mono hbt.size))) fun hA => ?_
        refine revals hA (rc 17 (wr64 (x := (j : Int) + 1) (y := ((j + 1 : Nat) : Int)) (by omega) (by omega)) rn) (by kernel_rfl) fun hA => ?_
        exact again hJ2 (n - (j + 1)) (j + 1) [] hA (by omega) (by kernel_rfl) (⟨by omega, rfl, hU3, hi3, by omega⟩)
      case inl =>
        refine revals hA (rc 26 (congrArg Value.bool hp) rn) (by kernel_rfl) fun hA => ?_
        refine runS hA 3 [.k 0, .k 0] xn on (by kernel_rfl) fun w5 hA => ?_
        have hb3 : Below wt.heap.size wt w5 := hA.below
        have hU3 := hU _ _ _ _ _ hUj (St.of_below hb3) (Grows.refl _ _)
        have hi3 := hit.up hb3 (by omega) hbl hwl hfl
        have hz3 := hb3.size
        refine back hA (by kernel_rfl) (At.plain (hbt.trans (hb3.mono hbt.size))) fun hA => ?_
        refine yieldS (kn' := []) (l := l) (n₀ := n₀) (B := W.heap.size) (X := noBlock) (C := C) (T := fun w' => U (preW (pairF ys) xs k j ++ [(xs[k]?.getD 0, xs[j]?.getD 0)]) noBlock w') (F := fun w' => Ux (preW (pairF ys) xs k j ++ [(xs[k]?.getD 0, xs[j]?.getD 0)]) noBlock w') hA [] on [] rfl (by kernel_rfl) (cut_size hn₀).symm (hY _ _ _ _ hU3 (by omega) (fun _ h => h.elim) (preW_len _ (by rw [hi.x.1]; exact hlt) (by rw [hi.x.1]; exact hlj) hp)) (by simp) (fun wy hT hkp hA => ?_) (fun wy hT hkp hA => ?_)
        ·
          have hby := hA.below
          have hzy := hkp.below.size
          refine rebase hA wy (by kernel_rfl) (At.start _) fun hA => ?_
          refine runS hA 12 [] xn on (by kernel_rfl) fun w6 hA => ?_
          have hb4 : Below wy.heap.size wy w6 := hA.below
          have hz4 := hb4.size
          have hU4 := hU _ _ _ _ _ hT (St.of_below hb4) (Grows.refl _ _)
          rw [preW_yes (by rw [hi.x.1]; exact hlj) hp] at hU4
          have hi4 := (hi3.kept hkp hC1 hC2 hC3 hAC hAC2).up hb4 (by omega) hbl hwl hfl
          refine back hA (by kernel_rfl) (At.plain (hby.trans (hb4.mono hby.size))) fun hA => ?_
          refine revals hA (rc 17 (wr64 (x := (j : Int) + 1) (y := ((j + 1 : Nat) : Int)) (by omega) (by omega)) rn) (by kernel_rfl) fun hA => ?_
          exact again hJ2 (n - (j + 1)) (j + 1) [] hA (by omega) (by kernel_rfl) (⟨by omega, rfl, hU4, hi4, by omega⟩)
        ·
          have hby := hA.below
          have hzy := hkp.below.size
          refine rebase hA wy (by kernel_rfl) (At.start _) fun hA => ?_
          refine runS hA 8 [] xn on (by kernel_rfl) fun w6 hA => ?_
          have hb4 : Below wy.heap.size wy w6 := hA.below
          have hz4 := hb4.size
          have hU4 := hUx _ _ _ _ _ hT (St.of_below hb4) (Grows.refl _ _)
          refine back hA (by kernel_rfl) (At.plain (hby.trans (hb4.mono hby.size))) fun hA => ?_
          refine leave hA (by kernel_rfl) fun hA => ?_
          have hby := hA.below
          refine rebase hA w6 (by kernel_rfl) (At.start _) fun hA => ?_
          refine runS hA 3 [] xn on (by kernel_rfl) fun w7 hA => ?_
          have hb5 : Below w6.heap.size w6 w7 := hA.below
          have hU5 := hUx _ _ _ _ _ hU4 (St.of_below hb5) (Grows.refl _ _)
          refine back hA (by kernel_rfl) (At.plain (hby.trans (hb5.mono hby.size))) fun hA => ?_
          refine leave hA (by kernel_rfl) fun hA => ?_
          have hby := hA.below
          refine rebase hA w7 (by kernel_rfl) (At.start _) fun hA => ?_
          refine runS hA 1 [] xn on (by kernel_rfl) fun w8 hA => ?_
          have hb6 : Below w7.heap.size w7 w8 := hA.below
          have hU6 := hUx _ _ _ _ _ hU5 (St.of_below hb6) (Grows.refl _ _)
          refine back hA (by kernel_rfl) (At.plain (hby.trans (hb6.mono hby.size))) fun hA => ?_
          exact ret (v := .tuple #[]) hA [] (by kernel_rfl) ⟨⟨_, rfl⟩, noBlock, .inr ⟨_, trivial, hU6⟩⟩
  case neg =>
    have hkn : k = n := by omega
    refine rebase hA wr (by kernel_rfl) (At.start _) fun hA => ?_
    refine runS hA 9 [.b false] xn (oc (dec_f (show ¬ (((k : Int) : Int) < (n : Int)) by omega)) on) (by kernel_rfl) fun w2 hA => ?_
    have hb2 : Below wr.heap.size wr w2 := hA.below
    have hU2 := hU _ _ _ _ _ hUk (St.of_below hb2) (Grows.refl _ _)
    refine back hA (by kernel_rfl) (At.plain (hbr.trans (hb2.mono hbr.size))) fun hA => ?_
    refine leave hA (by kernel_rfl) fun hA => ?_
    have hby := hA.below
    refine rebase hA w2 (by kernel_rfl) (At.start _) fun hA => ?_
    refine runS hA 1 [] xn on (by kernel_rfl) fun w3 hA => ?_
    have hb3 : Below w2.heap.size w2 w3 := hA.below
    have hU3 := hU _ _ _ _ _ hU2 (St.of_below hb3) (Grows.refl _ _)
    rw [preW_all _ (by rw [hi.x.1]; omega)] at hU3
    refine back hA (by kernel_rfl) (At.plain (hby.trans (hb3.mono hby.size))) fun hA => ?_
    exact ret (v := .tuple #[]) hA [] (by kernel_rfl) ⟨⟨_, rfl⟩, noBlock, .inl ⟨_, rfl, hU3⟩⟩
set_option maxRecDepth 20000 in
theorem pairs1_it2 (w : World) (n₀ B bx bw bf : Nat) (A : Option Addr) (n c : Nat) (xs : List Int) (A2 : Option Addr) (m c2 : Nat) (ys : List Int) (z : Nat) (C : Nat → Prop) (hi : PrsI B bx bw bf (.func (.func 66) #[] #[.pointer (some ⟨bf, 0, none⟩)]) A n c xs A2 m c2 ys z w) (hB : B ≤ z) (hn₀ : n₀ ≤ w.heap.size) (hn : n ≤ 1000000)
    (hbl : bx < z) (hwl : bw < z) (hfl : bf < z) (hC1 : C bx) (hC2 : C bw) (hC3 : C bf) (hAC : ∀ b off, A = some ⟨b, off, none⟩ → 0 < n → b < n₀ ∨ C b) (hAC2 : ∀ b off, A2 = some ⟨b, off, none⟩ → 0 < m → b < n₀ ∨ C b) :
    IterAt Tryz.prog 90 #[.pointer (some ⟨bx, 0, none⟩), .pointer (some ⟨bw, 0, none⟩)] encS n₀ C (fun l => l = prsF (bothF ys) xs) (fun _ => True) (prsF (bothF ys) xs).length w := by
  intro l U Ux W hb hU hUx hY h0
  have hbW : Below (cutW w n₀).heap.size (cutW w n₀) W := cut_below hn₀ (hb.mono hn₀)
  have hz0 := hi.size
  have hbz := hb.size
  have hi0 := hi.up hb (by omega) hbl hwl hfl
  refine enterK 35 Tryz.func90 (by kernel_rfl) (At.plain hbW) fun hA => ?_
  refine rebase hA W (by kernel_rfl) (At.start _) fun hA => ?_
  have hcx : bx < W.heap.size ∧ W.cell? ⟨bx, 0, none⟩ = some (.slice A n c) := ⟨by omega, hi0.bx⟩
  refine runS hA 8 [.x (.slice A n c)] (xc (a := ⟨bx, 0, none⟩) hcx xn) on (by kernel_rfl) fun w1 hA => ?_
  have hb1 : Below W.heap.size W w1 := hA.below
  have hU1 := hU _ _ _ _ _ h0 (St.of_below hb1) (Grows.refl _ _)
  have hi1 := hi0.up hb1 (by omega) hbl hwl hfl
  refine back hA (by kernel_rfl) (At.plain (hbW.trans (hb1.mono hbW.size))) fun hA => ?_
  refine loop (γ := Nat) (fun k => [(0, .func (.yield l) #[] #[]), (1, .pointer (some ⟨bx, 0, none⟩)), (2, .pointer (some ⟨bw, 0, none⟩)), (9, .slice A n c), (10, .int .i64 n), (11, .int .i64 (k : Int))]) (fun k => []) (fun _ => []) (fun g k wr => k ≤ n ∧ g = n - k ∧ U (preW (bothF ys) xs k 0) noBlock wr ∧ PrsI B bx bw bf (.func (.func 66) #[] #[.pointer (some ⟨bf, 0, none⟩)]) A n c xs A2 m c2 ys z wr ∧ W.heap.size ≤ wr.heap.size) n 0 [] hA (by kernel_rfl) (⟨by omega, rfl, by rw [preW_zero]; exact hU1, hi1, hb1.size⟩) ?_
  rintro _ k wr ⟨hk, rfl, hUk, hir, hzr⟩ J hJ hA
  have hbr := hA.below
  have hzi := hir.size
  by_cases hlt : k < n
  case pos =>
    obtain ⟨b, off, rfl, hbB, hc⟩ := hir.x.cell hlt
    have hc' : b < wr.heap.size ∧ wr.cell? ⟨b, off + k * 1, none⟩ = some (.int .i64 (xs[k]?.getD 0)) := ⟨by omega, by simpa using hc⟩
    have hcx : bx < wr.heap.size ∧ wr.cell? ⟨bx, 0, none⟩ = some (.slice (some ⟨b, off, none⟩) n c) := ⟨by omega, hir.bx⟩
    refine rebase hA wr (by kernel_rfl) (At.start _) fun hA => ?_
    refine runS hA 26 [.b true, .i, .x (.int .i64 (xs[k]?.getD 0)), .x (.slice (some ⟨b, off, none⟩) n c)] (xc (a := ⟨b, off + k * 1, none⟩) hc' (xc (a := ⟨bx, 0, none⟩) hcx xn)) (oc (dec_t (show (((k : Int) : Int) < (n : Int)) by omega)) (oc (show (0 : Int) ≤ ((k : Int) : Int) ∧ ((k : Int) : Int) < (n : Int) by omega) on)) (by kernel_rfl) fun w2 hA => ?_
    have hb2 : Below wr.heap.size wr w2 := hA.below
    have hU2 := hU _ _ _ _ _ hUk (St.of_below hb2) (Grows.refl _ _)
    have hi2 := hir.up hb2 (by omega) hbl hwl hfl
    have hz2 := hb2.size
    refine back hA (by kernel_rfl) (At.plain (hbr.trans (hb2.mono hbr.size))) fun hA => ?_
    refine loop (γ := Nat) (fun j => [(0, .func (.yield l) #[] #[]), (1, .pointer (some ⟨bx, 0, none⟩)), (2, .pointer (some ⟨bw, 0, none⟩)), (5, .int .i64 (xs[k]?.getD 0)), (9, .slice (some ⟨b, off, none⟩) n c), (10, .int .i64 n), (11, .int .i64 (k : Int)), (15, .slice (some ⟨b, off, none⟩) n c), (16, .int .i64 n), (17, .int .i64 (j : Int))]) (fun j => []) (fun _ => []) (fun g j wt => j ≤ n ∧ g = n - j ∧ U (preW (bothF ys) xs k j) noBlock wt ∧ PrsI B bx bw bf (.func (.func 66) #[] #[.pointer (some ⟨bf, 0, none⟩)]) (some ⟨b, off, none⟩) n c xs A2 m c2 ys z wt ∧ W.heap.size ≤ wt.heap.size) n 0 [] hA (by kernel_rfl) (⟨by omega, rfl, hU2, hi2, by omega⟩) ?_
    rintro _ j wt ⟨hj, rfl, hUj, hit, hzt⟩ J2 hJ2 hA
    have hbt := hA.below
    have hzi2 := hit.size
    by_cases hlj : j < n
    case neg =>
      have hjn : j = n := by omega
      refine rebase hA wt (by kernel_rfl) (At.start _) fun hA => ?_
      refine runS hA 9 [.b false] xn (oc (dec_f (show ¬ (((j : Int) : Int) < (n : Int)) by omega)) on) (by kernel_rfl) fun w3 hA => ?_
      have hb3 : Below wt.heap.size wt w3 := hA.below
      have hU3 := hU _ _ _ _ _ hUj (St.of_below hb3) (Grows.refl _ _)
      rw [hjn, preW_row _ (by rw [hi.x.1]; exact hlt) (by rw [hi.x.1]; exact Nat.le_refl _)] at hU3
      have hi3 := hit.up hb3 (by omega) hbl hwl hfl
      have hz3 := hb3.size
      refine back hA (by kernel_rfl) (At.plain (hbt.trans (hb3.mono hbt.size))) fun hA => ?_
      refine leave hA (by kernel_rfl) fun hA => ?_
      have hbt := hA.below
      refine rebase hA w3 (by kernel_rfl) (At.start _) fun hA => ?_
      have hzz : w3.heap.size = w3.heap.size := rfl
      refine runS hA 7 [] xn on (by kernel_rfl) fun w4 hA => ?_
      have hb4 : Below w3.heap.size w3 w4 := hA.below
      have hU4 := hU _ _ _ _ _ hU3 (St.of_below hb4) (Grows.refl _ _)
      have hi4 := hi3.up hb4 (by omega) hbl hwl hfl
      have hz4 := hb4.size
      refine back hA (by kernel_rfl) (At.plain (hbt.trans (hb4.mono hbt.size))) fun hA => ?_
      refine revals hA (rc 11 (wr64 (x := (k : Int) + 1) (y := ((k + 1 : Nat) : Int)) (by omega) (by omega)) rn) (by kernel_rfl) fun hA => ?_
      exact again hJ (n - (k + 1)) (k + 1) [] hA (by omega) (by kernel_rfl) (⟨by omega, rfl, hU4, hi4, by omega⟩)
    case pos =>
      obtain ⟨b', off', eA, hbB2, hc2⟩ := hit.x.cell hlj
      injection eA with eA
      injection eA with e1 e2
      subst e1; subst e2
      have hc3 : b < wt.heap.size ∧ wt.cell? ⟨b, off + j * 1, none⟩ = some (.int .i64 (xs[j]?.getD 0)) := ⟨by omega, by simpa using hc2⟩
      have hcw : bw < wt.heap.size ∧ wt.cell? ⟨bw, 0, none⟩ = some (.func (.func 66) #[] #[.pointer (some ⟨bf, 0, none⟩)]) := ⟨by omega, hit.bw⟩
      refine rebase hA wt (by kernel_rfl) (At.start _) fun hA => ?_
      refine runS hA 31 [.b true, .i, .x (.int .i64 (xs[j]?.getD 0)), .k 0, .k 0, .x (.func (.func 66) #[] #[.pointer (some ⟨bf, 0, none⟩)]), .k 0, .k 0] (xc (a := ⟨b, off + j * 1, none⟩) hc3 (xc (a := ⟨bw, 0, none⟩) hcw xn)) (oc (dec_t (show (((j : Int) : Int) < (n : Int)) by omega)) (oc (show (0 : Int) ≤ ((j : Int) : Int) ∧ ((j : Int) : Int) < (n : Int) by omega) on)) (by kernel_rfl) fun w3 hA => ?_
      refine callB hA [] on (winners2_any w3 B bf A2 m c2 ys (xs[k]?.getD 0, xs[j]?.getD 0) (hit.y.below hA.below (by show B ≤ wt.heap.size; omega)) (by have : wt.heap.size ≤ w3.heap.size := hA.below.size; omega) (by have : wt.heap.size ≤ w3.heap.size := hA.below.size; omega) ((hA.below.cell (by show bf < wt.heap.size; omega)).trans hit.bf)) (by kernel_rfl) fun w4 hb4 hA => ?_
      rcases Bool.eq_false_or_eq_true (bothF ys (xs[k]?.getD 0, xs[j]?.getD 0)) with hp | hp
      case inr =>
        refine revals hA (rc 26 (congrArg Value.bool hp) rn) (by kernel_rfl) fun hA => ?_
        refine runS hA 16 [] xn on (by kernel_rfl) fun w5 hA => ?_
        have hb3 : Below wt.heap.size wt w5 := hA.below
        have hU3 := hU _ _ _ _ _ hUj (St.of_below hb3) (Grows.refl _ _)
        rw [← preW_no (by rw [hi.x.1]; exact hlj) hp] at hU3
        have hi3 := hit.up hb3 (by omega) hbl hwl hfl
        have hz3 := hb3.size
        refine back hA (by kernel_rfl) (At.plain (hbt.trans (hb3.mono hbt.size))) fun hA => ?_
        refine revals hA (rc 17 (wr64 (x := (j : Int) + 1) (y := ((j + 1 : Nat) : Int)) (by omega) (by omega)) rn) (by kernel_rfl) fun hA => ?_
        exact again hJ2 (n - (j + 1)) (j + 1) [] hA (by omega) (by kernel_rfl) (⟨by omega, rfl, hU3, hi3, by omega⟩)
      case inl =>
        refine revals hA (rc 26 (congrArg Value.bool hp) rn) (by kernel_rfl) fun hA => ?_
        refine runS hA 3 [.k 0, .k 0] xn on (by kernel_rfl) fun w5 hA => ?_
        have hb3 : Below wt.heap.size wt w5 := hA.below
        have hU3 := hU _ _ _ _ _ hUj (St.of_below hb3) (Grows.refl _ _)
        have hi3 := hit.up hb3 (by omega) hbl hwl hfl
        have hz3 := hb3.size
        refine back hA (by kernel_rfl) (At.plain (hbt.trans (hb3.mono hbt.size))) fun hA => ?_
        refine yieldS (kn' := []) (l := l) (n₀ := n₀) (B := W.heap.size) (X := noBlock) (C := C) (T := fun w' => U (preW (bothF ys) xs k j ++ [(xs[k]?.getD 0, xs[j]?.getD 0)]) noBlock w') (F := fun w' => Ux (preW (bothF ys) xs k j ++ [(xs[k]?.getD 0, xs[j]?.getD 0)]) noBlock w') hA [] on [] rfl (by kernel_rfl) (cut_size hn₀).symm (hY _ _ _ _ hU3 (by omega) (fun _ h => h.elim) (preW_len _ (by rw [hi.x.1]; exact hlt) (by rw [hi.x.1]; exact hlj) hp)) (by simp) (fun wy hT hkp hA => ?_) (fun wy hT hkp hA => ?_)
        ·
          have hby := hA.below
          have hzy := hkp.below.size
          refine rebase hA wy (by kernel_rfl) (At.start _) fun hA => ?_
          refine runS hA 12 [] xn on (by kernel_rfl) fun w6 hA => ?_
          have hb4 : Below wy.heap.size wy w6 := hA.below
          have hz4 := hb4.size
          have hU4 := hU _ _ _ _ _ hT (St.of_below hb4) (Grows.refl _ _)
          rw [preW_yes (by rw [hi.x.1]; exact hlj) hp] at hU4
          have hi4 := (hi3.kept hkp hC1 hC2 hC3 hAC hAC2).up hb4 (by omega) hbl hwl hfl
          refine back hA (by kernel_rfl) (At.plain (hby.trans (hb4.mono hby.size))) fun hA => ?_
          refine revals hA (rc 17 (wr64 (x := (j : Int) + 1) (y := ((j + 1 : Nat) : Int)) (by omega) (by omega)) rn) (by kernel_rfl) fun hA => ?_
          exact again hJ2 (n - (j + 1)) (j + 1) [] hA (by omega) (by kernel_rfl) (⟨by omega, rfl, hU4, hi4, by omega⟩)
        ·
          have hby := hA.below
          have hzy := hkp.below.size
          refine rebase hA wy (by kernel_rfl) (At.start _) fun hA => ?_
          refine runS hA 8 [] xn on (by kernel_rfl) fun w6 hA => ?_
          have hb4 : Below wy.heap.size wy w6 := hA.below
          have hz4 := hb4.size
          have hU4 := hUx _ _ _ _ _ hT (St.of_below hb4) (Grows.refl _ _)
          refine back hA (by kernel_rfl) (At.plain (hby.trans (hb4.mono hby.size))) fun hA => ?_
          refine leave hA (by kernel_rfl) fun hA => ?_
          have hby := hA.below
          refine rebase hA w6 (by kernel_rfl) (At.start _) fun hA => ?_
          refine runS hA 3 [] xn on (by kernel_rfl) fun w7 hA => ?_
          have hb5 : Below w6.heap.size w6 w7 := hA.below
          have hU5 := hUx _ _ _ _ _ hU4 (St.of_below hb5) (Grows.refl _ _)
          refine back hA (by kernel_rfl) (At.plain (hby.trans (hb5.mono hby.size))) fun hA => ?_
          refine leave hA (by kernel_rfl) fun hA => ?_
          have hby := hA.below
          refine rebase hA w7 (by kernel_rfl) (At.start _) fun hA => ?_
          refine runS hA 1 [] xn on (by kernel_rfl) fun w8 hA => ?_
          have hb6 : Below w7.heap.size w7 w8 := hA.below
          have hU6 := hUx _ _ _ _ _ hU5 (St.of_below hb6) (Grows.refl _ _)
          refine back hA (by kernel_rfl) (At.plain (hby.trans (hb6.mono hby.size))) fun hA => ?_
          exact ret (v := .tuple #[]) hA [] (by kernel_rfl) ⟨⟨_, rfl⟩, noBlock, .inr ⟨_, trivial, hU6⟩⟩
  case neg =>
    have hkn : k = n := by omega
    refine rebase hA wr (by kernel_rfl) (At.start _) fun hA => ?_
    refine runS hA 9 [.b false] xn (oc (dec_f (show ¬ (((k : Int) : Int) < (n : Int)) by omega)) on) (by kernel_rfl) fun w2 hA => ?_
    have hb2 : Below wr.heap.size wr w2 := hA.below
    have hU2 := hU _ _ _ _ _ hUk (St.of_below hb2) (Grows.refl _ _)
    refine back hA (by kernel_rfl) (At.plain (hbr.trans (hb2.mono hbr.size))) fun hA => ?_
    refine leave hA (by kernel_rfl) fun hA => ?_
    have hby := hA.below
    refine rebase hA w2 (by kernel_rfl) (At.start _) fun hA => ?_
    refine runS hA 1 [] xn on (by kernel_rfl) fun w3 hA => ?_
    have hb3 : Below w2.heap.size w2 w3 := hA.below
    have hU3 := hU _ _ _ _ _ hU2 (St.of_below hb3) (Grows.refl _ _)
    rw [preW_all _ (by rw [hi.x.1]; omega)] at hU3
    refine back hA (by kernel_rfl) (At.plain (hby.trans (hb3.mono hby.size))) fun hA => ?_
    exact ret (v := .tuple #[]) hA [] (by kernel_rfl) ⟨⟨_, rfl⟩, noBlock, .inl ⟨_, rfl, hU3⟩⟩
end Go.Proofs.YtbahiemjaomdcaaGreat

/- pool: slices.Sort at ints; finishes; placed. -/
namespace Go.Proofs
open Go.Shelf
def Tryz.lays189_ren : Go.Shelf.Ren := ⟨fun | 189 => 88 | 125 => 98 | 257 => 97 | 128 => 109 | 129 => 110 | 294 => 101 | 295 => 102 | 296 => 103 | 297 => 104 | 298 => 105 | 299 => 106 | 216 => 95 | 300 => 107 | 301 => 108 | 328 => 111 | 329 => 112 | 330 => 113 | 331 => 114 | 332 => 115 | 215 => 100 | 343 => 116 | n => n, fun | 28 => 23 | 3 => 3 | 46 => 141 | 0 => 0 | 51 => 154 | 53 => 156 | 4 => 4 | 183 => 148 | 182 => 147 | 131 => 129 | 5 => 5 | 9 => 9 | 218 => 157 | 222 => 161 | 228 => 163 | 229 => 164 | n => n, fun | n => n⟩
theorem Tryz.lays189 : Go.Proofs.Lays.n189 Tryz.prog Tryz.lays189_ren := {
  mixed := by kernel_rfl
  f125 := Tryz.func98.trans (congrArg some (by kernel_rfl))
  f128 := Tryz.func109.trans (congrArg some (by kernel_rfl))
  f129 := Tryz.func110.trans (congrArg some (by kernel_rfl))
  f189 := Tryz.func88.trans (congrArg some (by kernel_rfl))
  f215 := Tryz.func100.trans (congrArg some (by kernel_rfl))
  f216 := Tryz.func95.trans (congrArg some (by kernel_rfl))
  f257 := Tryz.func97.trans (congrArg some (by kernel_rfl))
  f294 := Tryz.func101.trans (congrArg some (by kernel_rfl))
  f295 := Tryz.func102.trans (congrArg some (by kernel_rfl))
  f296 := Tryz.func103.trans (congrArg some (by kernel_rfl))
  f297 := Tryz.func104.trans (congrArg some (by kernel_rfl))
  f298 := Tryz.func105.trans (congrArg some (by kernel_rfl))
  f299 := Tryz.func106.trans (congrArg some (by kernel_rfl))
  f300 := Tryz.func107.trans (congrArg some (by kernel_rfl))
  f301 := Tryz.func108.trans (congrArg some (by kernel_rfl))
  f328 := Tryz.func111.trans (congrArg some (by kernel_rfl))
  f329 := Tryz.func112.trans (congrArg some (by kernel_rfl))
  f330 := Tryz.func113.trans (congrArg some (by kernel_rfl))
  f331 := Tryz.func114.trans (congrArg some (by kernel_rfl))
  f332 := Tryz.func115.trans (congrArg some (by kernel_rfl))
  f343 := Tryz.func116.trans (congrArg some (by kernel_rfl))
  t0 := Tryz.underlying0
  a0 := Tryz.isAgg0
  z0 := Tryz.sizeOf0
  v0 := Tryz.zeroValue0
  t3 := Tryz.underlying3
  a3 := Tryz.isAgg3
  z3 := Tryz.sizeOf3
  v3 := Tryz.zeroValue3
  t4 := Tryz.underlying4
  a4 := Tryz.isAgg4
  z4 := Tryz.sizeOf4
  v4 := Tryz.zeroValue4
  t5 := Tryz.underlying5
  a5 := Tryz.isAgg5
  z5 := Tryz.sizeOf5
  v5 := Tryz.zeroValue5
  t9 := Tryz.underlying9
  a9 := Tryz.isAgg9
  z9 := Tryz.sizeOf9
  v9 := Tryz.zeroValue9
  t28 := Tryz.underlying23
  a28 := Tryz.isAgg23
  z28 := Tryz.sizeOf23
  v28 := Tryz.zeroValue23
  t46 := Tryz.underlying141
  a46 := Tryz.isAgg141
  z46 := Tryz.sizeOf141
  v46 := Tryz.zeroValue141
  t51 := Tryz.underlying154
  a51 := Tryz.isAgg154
  z51 := Tryz.sizeOf154
  v51 := Tryz.zeroValue154
  t53 := Tryz.underlying156
  a53 := Tryz.isAgg156
  z53 := Tryz.sizeOf156
  v53 := Tryz.zeroValue156
  t131 := Tryz.underlying129
  a131 := Tryz.isAgg129
  z131 := Tryz.sizeOf129
  v131 := Tryz.zeroValue129
  t182 := Tryz.underlying147
  a182 := Tryz.isAgg147
  z182 := Tryz.sizeOf147
  v182 := Tryz.zeroValue147
  t183 := Tryz.underlying148
  a183 := Tryz.isAgg148
  z183 := Tryz.sizeOf148
  v183 := Tryz.zeroValue148
  t218 := Tryz.underlying157
  a218 := Tryz.isAgg157
  z218 := Tryz.sizeOf157
  v218 := Tryz.zeroValue157
  t222 := Tryz.underlying161
  a222 := Tryz.isAgg161
  z222 := Tryz.sizeOf161
  v222 := Tryz.zeroValue161
  t228 := Tryz.underlying163
  a228 := Tryz.isAgg163
  z228 := Tryz.sizeOf163
  v228 := Tryz.zeroValue163
  t229 := Tryz.underlying164
  a229 := Tryz.isAgg164
  z229 := Tryz.sizeOf164
  v229 := Tryz.zeroValue164 }
end Go.Proofs
namespace Go.Proofs.YtbahiemjaomdcaaGreat
open Go.RowKit Go.Shelf

def ints (xs : List Int) : List Value := xs.map (Value.int .i64)
def srtF (xs : List Int) : List Int := xs.mergeSort fun x y => decide (x ≤ y)
theorem sortRow {w w0 : World} {kn ob rest : List KB} {sz g n cap : Nat} {xs : List Int} (hA : At w0 w kn (ob ++ rest) sz) (hr : RowV 3 1 (.slice (some ⟨g, 0, none⟩) n cap) n (ints xs) ob) (hn : n ≤ 1000000) :
    Calls Tryz.prog 88 #[.slice (some ⟨g, 0, none⟩) n cap] w fun e w' => e = .returned (.tuple #[]) ∧ w.heap.size ≤ w'.heap.size ∧ ∃ ob', RowV 3 1 (.slice (some ⟨g, 0, none⟩) n cap) n (ints (srtF xs)) ob' ∧ At w0 w' kn (ob' ++ rest) w'.heap.size := by
  have hlen : xs.length = n := by have := hr.1; simpa [ints] using this
  obtain ⟨g', cap', cur, hv, hob, h1, h2, h3, h4⟩ : ∃ g' cap' cur, Value.slice (some ⟨g, 0, none⟩) n cap = .slice (some ⟨g', 0, none⟩) n cap' ∧ ob = [⟨g', .cells cur 3 (0, 0)⟩] ∧ n ≤ cap' ∧ cap' ≤ maxLen ∧ cur.size = cap' * 1 ∧ cur.toList.take (n * 1) = ints xs := by
    rcases hr.2 with ⟨h, -⟩ | h
    · cases h
    · exact h
  cases hv
  subst hob
  have hblk := hA.rok ⟨g, .cells cur 3 (0, 0)⟩ (by simp)
  have hlt : g < w.heap.size := (Array.getElem?_eq_some_iff.1 hblk).1
  have hlow := hA.rlow ⟨g, .cells cur 3 (0, 0)⟩ (by simp)
  have hH := Go.holds_of_blockI (ss := xs) hblk (by rw [hlen]; rw [Nat.mul_one] at h4; exact h4)
  have := calls_of_every_depth fun D => AnyS.slices_Sort_int_in Tryz.lays189 D g 0 cap xs w hH hlt (by omega)
  rw [hlen] at this
  refine this.mono ?_
  rintro e w' ⟨rfl, k, os, rfl⟩
  have hsl : (srtF xs).length = n := by rw [srtF, List.length_mergeSort, hlen]
  have hg : w.grownBy (Go.Sort.grow (Go.Sort.putRow (Value.int .i64) (Go.Sort.ahead w k) g 0 (srtF xs).toArray) os) (some g) := grownBy_sortedI _
  have hown := ownsRow_sortedI (w := w) (base := w0.heap.size) (n := k) (os := os) (ss := xs) (ts := srtF xs) (by rw [hsl, hlen]) hlow hblk (by rw [hlen]; exact h1) h2 h3
  rw [hlen] at hown
  obtain ⟨ob', hr', hA'⟩ := At.row (ob := [⟨g, .cells cur 3 (0, 0)⟩]) hA hr hown hg (.inl rfl)
  exact ⟨rfl, hg.size, ob', hr', hA'⟩
/-- Groups that lie in memory. -/
def FinAt (w : World) (B : Nat) (A : Option Addr) (n : Nat) (fs : List (List Int)) : Prop :=
  fs.length = n ∧ n ≤ 9223372036854775807 ∧ (0 < n → ∃ b off, A = some ⟨b, off, none⟩ ∧ b < B ∧ ∀ j, j < n → ∃ A' c', w.cell? ⟨b, off + j, none⟩ = some (.slice A' (fs[j]?.getD []).length c') ∧ (fs[j]?.getD []).length ≤ c' ∧ IntsAt w B A' (fs[j]?.getD []).length (fs[j]?.getD []))
theorem FinAt.below {w w' : World} {B D : Nat} {A : Option Addr} {n : Nat} {fs : List (List Int)} (h : FinAt w B A n fs) (hb : Below D w w') (hD : B ≤ D) : FinAt w' B A n fs :=
  ⟨h.1, h.2.1, fun h0 => by
    obtain ⟨b, off, e, hlt, hc⟩ := h.2.2 h0
    refine ⟨b, off, e, hlt, fun j hj => ?_⟩
    obtain ⟨A', c', k1, k2, k3⟩ := hc j hj
    exact ⟨A', c', (hb.cell (by show b < D; omega)).trans k1, k2, k3.below hb hD⟩⟩
theorem ints_get {xs : List Int} {j : Nat} {u : Value} (h : (ints xs)[j]? = some u) : j < xs.length ∧ u = .int .i64 (xs[j]?.getD 0) := by
  unfold ints at h
  rw [List.getElem?_map] at h
  cases hx : xs[j]? with
  | none => rw [hx] at h; cases h
  | some x => rw [hx] at h; cases h; exact ⟨(List.getElem?_eq_some_iff.1 hx).1, rfl⟩
theorem ints_ones (xs : List Int) : ((ints xs).all fun u => oneCell u) = true := by simp [ints, oneCell]
theorem IntsAt.cells {w : World} {B b off n : Nat} {xs : List Int} (h : IntsAt w B (some ⟨b, off, none⟩) n xs) : ∀ j u, (ints xs)[j]? = some u → w.cell? (Addr.add ⟨b, off, none⟩ j) = some u := fun j u hu => by
  obtain ⟨hj, rfl⟩ := ints_get hu
  obtain ⟨b', off', e, -, hc⟩ := h.cell (k := j) (by rw [← h.1]; exact hj)
  cases e
  rw [add_place]
  exact hc
theorem RowV.ints {w w0 : World} {kn ob rest : List KB} {sz g n cap : Nat} {xs : List Int} (hr : RowV 3 1 (.slice (some ⟨g, 0, none⟩) n cap) n (Go.Proofs.YtbahiemjaomdcaaGreat.ints xs) ob) (hA : At w0 w kn (ob ++ rest) sz) (hn : n ≤ 1000000) : IntsAt w w.heap.size (some ⟨g, 0, none⟩) n xs :=
  ownT_ints (hr.own hA) hn
/-- Who is placed. -/
def plaF (fs : List (List Int)) : List Int := if (fs[0]?.getD []).length = 1 then srtF (fs[0]?.getD [] ++ fs[1]?.getD []) else fs[0]?.getD []
set_option maxRecDepth 20000 in
theorem placed_any (w : World) (B : Nat) (A : Option Addr) (n c : Nat) (fs : List (List Int)) (h : FinAt w B A n fs) (hB : B ≤ w.heap.size) (h0 : 0 < n) (h1 : (fs[0]?.getD []).length = 1 → 1 < n ∧ 0 < (fs[1]?.getD []).length ∧ (fs[1]?.getD []).length ≤ 100) :
    Calls Tryz.prog 61 #[.slice A n c] w fun e w' => ∃ A' l c', e = .returned (.slice A' l c') ∧ Below w.heap.size w w' ∧ IntsAt w' w'.heap.size A' l (plaF fs) ∧ (∀ b off, A' = some ⟨b, off, none⟩ → 0 < l → b < B ∨ w.heap.size ≤ b) ∧ l ≤ c' := by
  obtain ⟨b, off, rfl, hbB, hc⟩ := h.2.2 h0
  obtain ⟨A1, c1, k1, l1, x1⟩ := hc 0 h0
  have hc0 : b < w.heap.size ∧ w.cell? ⟨b, off + 0 * 1, none⟩ = some (.slice A1 (fs[0]?.getD []).length c1) := ⟨by omega, by simpa using k1⟩
  obtain ⟨F, hF⟩ : ∃ F, F = fs[0]?.getD [] := ⟨_, rfl⟩
  rw [← hF] at hc0 l1 x1 h1
  refine enter 19 Tryz.func61 (by kernel_rfl) fun hA => ?_
  by_cases e1 : F.length = 1
  case neg =>
    refine runS hA 31 [.i, .x (.slice A1 F.length c1), .b false] (xc (a := ⟨b, off, none⟩) hc0 xn) (oc (show (0 : Int) ≤ (0 : Int) ∧ (0 : Int) < (n : Int) by omega) (oc (eq_f (a := (F.length : Int)) (b := 1) (by omega)) on)) (by kernel_rfl) fun w1 hA => ?_
    have hp : plaF fs = F := by unfold plaF; rw [← hF, if_neg e1]
    exact ret (v := .slice A1 F.length c1) hA [] (by kernel_rfl) ⟨A1, F.length, c1, rfl, hA.below, by rw [hp]; exact (x1.below hA.below hB).more (Nat.le_trans hB hA.size), fun b' off' e hpos => .inl (by obtain ⟨b2, off2, e2, hb2, -⟩ := x1.2.2 hpos; rw [e] at e2; cases e2; exact hb2), l1⟩
  case pos =>
    obtain ⟨h1n, h2⟩ := h1 e1
    obtain ⟨A2, c2, k2, l2, x2⟩ := hc 1 h1n
    have hc1 : b < w.heap.size ∧ w.cell? ⟨b, off + 1 * 1, none⟩ = some (.slice A2 (fs[1]?.getD []).length c2) := ⟨by omega, by simpa using k2⟩
    obtain ⟨G, hG⟩ : ∃ G, G = fs[1]?.getD [] := ⟨_, rfl⟩
    rw [← hG] at hc1 l2 x2 h2
    obtain ⟨b1, off1, rfl, hb1, -⟩ := x1.2.2 (by omega)
    obtain ⟨b2, off2, rfl, hb2, -⟩ := x2.2.2 (by omega)
    refine runS hA 23 [.i, .x (.slice (some ⟨b1, off1, none⟩) F.length c1), .b true] (xc (a := ⟨b, off, none⟩) hc0 xn) (oc (show (0 : Int) ≤ (0 : Int) ∧ (0 : Int) < (n : Int) by omega) (oc (eq_t (a := (F.length : Int)) (b := 1) (by omega)) on)) (by kernel_rfl) fun w1 hA => ?_
    refine draw hA [] [0, 1, 2, 3, 4] (by kernel_rfl) (by kernel_rfl) fun hA => ?_
    refine runS hA 6 [.t 0, .t 1, .i, .t 2, .t 3, .i, .t 4, .x (.slice (some ⟨b2, off2, none⟩) G.length c2), .b false] (xc (a := ⟨b, off + 1, none⟩) hc1 xn) (oc (show (0 : Int) ≤ (0 : Int) ∧ (0 : Int) ≤ (1 : Int) ∧ (1 : Int) ≤ (1 : Int) ∧ (1 : Int) ≤ (c1 : Int) by omega) (oc (show (0 : Int) ≤ (1 : Int) ∧ (1 : Int) < (n : Int) by omega) on)) (by kernel_rfl) fun w2 hA => ?_
    have hA2 := hA.below
    have y1 := (x1.below hA.below hB)
    have y2 := (x2.below hA.below hB)
    refine appF (t := 23) (e := 3) (ty := 23) (z := .int .i64 0) (size := 1) (bytes := 8) (b := ⟨b1, off1, none⟩) (n := 1) (cap := 1) (a := ⟨b2, off2, none⟩) (m := G.length) (cp := c2) (ints F) (ints G) hA (by kernel_rfl) (by simp [ints, e1]) (fun j u hu => y1.cells j u hu) (by simp [ints]) (fun j u hu => y2.cells j u hu) (by omega) (by omega) (by omega) fun v1 w3 ob1 hr1 hg1 hb1 hA => ?_
    have hpl : plaF fs = srtF (F ++ G) := by unfold plaF; rw [← hF, ← hG, if_pos e1]
    obtain ⟨g, cap, cur, rfl, rfl, q1, q2, q3, q4⟩ : ∃ g cap cur, v1 = .slice (some ⟨g, 0, none⟩) (1 + G.length) cap ∧ ob1 = [⟨g, .cells cur 3 (0, 0)⟩] ∧ _ := by
      rcases hr1.2 with ⟨-, h, -⟩ | h
      · omega
      · exact h
    have hr2 : RowV 3 1 (.slice (some ⟨g, 0, none⟩) (1 + G.length) cap) (1 + G.length) (ints (F ++ G)) [⟨g, .cells cur 3 (0, 0)⟩] := by rw [show ints (F ++ G) = ints F ++ ints G by simp [ints]]; exact hr1
    refine runS hA 5 [] xn on (by kernel_rfl) fun w4 hA => ?_
    refine callW hA [] on (sortRow hA.at_ hr2 (by omega)) (by kernel_rfl) ?_
    rintro e w5 ⟨rfl, hz, ob3, hr3, hA3⟩
    refine ⟨.tuple #[], _, _, rfl, hA3, hz, fun hA => ?_⟩
    refine runS hA 9 [] xn on (by kernel_rfl) fun w6 hA => ?_
    have hgl : w.heap.size ≤ g := Nat.le_trans hA2.size (hg1 g rfl)
    exact ret (v := .slice (some ⟨g, 0, none⟩) (1 + G.length) cap) hA [] (by kernel_rfl) ⟨_, _, _, rfl, hA.below, by rw [hpl]; exact hr3.ints hA.at_ (by omega), fun b' off' e _ => .inr (by cases e; exact hgl), q1⟩
end Go.Proofs.YtbahiemjaomdcaaGreat
