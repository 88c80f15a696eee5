/- Parts of a proof: VX VY VZ YG. -/
import Derived.Test.YtbahiemjaomdcaaGreatF12

/- law of pool: paid. -/
namespace Go.Proofs.YtbahiemjaomdcaaGreat
open Go.RowKit Go.Shelf

/-- The dividends. -/
def dvL (b : Bk) (fs : List (List Int)) : List ((Int × Int) × Int) := (bkd (tilF b) fs).map fun s => (s, dvF (tilF b) fs s)
theorem dvA_eq {b : Bk} {fs : List (List Int)} (h0 : bookF b = 0) (h : isFinF b fs = true) : dvA b fs = dvL b fs ∧ dvE b fs = if bkd (tilF b) fs = [] then 19 else 0 := by
  have V := valid_of h0
  have hw := (win_nodup V h).2
  have hat : atF b fs = 0 := by unfold atF; rw [if_pos h0, if_pos h]
  have hlen : (payF (tilF b) fs).length = (bkd (tilF b) fs).length := pay_len (t := tilF b) hw
  have he : dvE b fs = if bkd (tilF b) fs = [] then 19 else 0 := by
    unfold dvE
    rw [if_pos hat, hlen]
    by_cases hb : bkd (tilF b) fs = []
    · rw [if_pos hb, if_pos (by rw [hb]; rfl)]
    · rw [if_neg hb, if_neg (fun h9 => hb (List.length_eq_zero_iff.1 h9))]
  refine ⟨?_, he⟩
  unfold dvA
  rw [he]
  by_cases hb : bkd (tilF b) fs = []
  · rw [if_pos hb, if_neg (by decide)]
    unfold dvL
    rw [hb]
    rfl
  · rw [if_neg hb, if_pos rfl]
    obtain ⟨k1, k2, k3⟩ := payF_keys (tilF b) fs
    have ef : (winF b fs).filter (fun x => decide (0 < mget 0 (payF (tilF b) fs) x)) = bkd (tilF b) fs := by
      show _ = (winF b fs).filter _
      refine List.filter_congr fun x hx => ?_
      have hu := uL_bound (tilF b) x b.bets (units_ok V)
      by_cases hk : x ∈ keysL (payF (tilF b) fs)
      · have h1 := k3 x hk
        have h2 := ((k2 x).1 hk).2
        have h1' : mget 0 (payF (tilF b) fs) x = uL (tilF b) b.bets x := h1
        have h2' : uL (tilF b) b.bets x ≠ 0 := h2
        rw [h1', decide_eq_true (show 0 < uL (tilF b) b.bets x by omega), decide_eq_true h2]
      · have h1 : mget 0 (payF (tilF b) fs) x = 0 := by unfold mget; rw [mfind_none hk]
        have h2 : ¬ uL (tilF b) (tilF b).b.bets x ≠ 0 := fun h9 => hk ((k2 x).2 ⟨hx, h9⟩)
        rw [h1, decide_eq_false (by decide), decide_eq_false h2]
    unfold divL dvL
    rw [ef]
    refine List.map_congr_left fun s _ => ?_
    rw [divF_eq (t := tilF b) hw]
set_option maxHeartbeats 1000000 in
set_option maxRecDepth 20000 in
theorem paid_any (w : World) (B : Nat) (b : Bk) (A : Option Addr) (n c : Nat) (A2 : Option Addr) (m c2 : Nat) (A3 : Option Addr) (nf cf : Nat) (fs : List (List Int)) (h : BkAt w B b A n c A2 m c2) (hf : FinAt w B A3 nf fs) (hB : B ≤ w.heap.size) (h0 : bookF b = 0) (hfin : isFinF b fs = true) : Calls Tryz.prog 22 #[bkV b A n c A2 m c2, .slice A3 nf cf] w fun e w' => ∃ v, e = .returned (.tuple #[v, .bool true]) ∧ Below w.heap.size w w' ∧ w'.ownsRow w.heap.size 59 3 v (dvL b fs).length (encD (dvL b fs)) := by
  have hfl : (bkd (tilF b) fs).length ≤ 1000 := by have := (at_ok (b := b) (fs := fs) (by unfold atF; rw [if_pos h0, if_pos hfin])).2.ws; exact Nat.le_trans (List.length_filter_le _ _) this
  have hdl : (dvL b fs).length = (bkd (tilF b) fs).length := by unfold dvL; rw [List.length_map]
  have hd1 := (dvA_eq h0 hfin).1
  have hd2 := (dvA_eq h0 hfin).2
  refine enter 31 Tryz.func22 (by kernel_rfl) fun hA => ?_
  refine runS hA 11 (List.replicate 8 (.k 0)) xn on (by kernel_rfl) fun w1 hA => ?_
  have hP := Dividends_any w1 B b A n c A2 m c2 A3 nf cf fs (h.below hA.below hB) (hf.below hA.below hB) (Nat.le_trans hB hA.size)
  rw [hd1, hd2] at hP
  by_cases hb : bkd (tilF b) fs = []
  case pos =>
    rw [if_pos hb] at hP
    have hln : (dvL b fs).length = 0 := by rw [hdl, hb]; rfl
    have hApx := hA.atK [⟨w.heap.size, .cells #[.int .i64 b.kind, .int .i64 b.runners, .slice A n c, .slice A2 m c2, .bool b.fav, .int .i64 b.car, .int .i64 b.dut, .int .i64 b.stp] 25 (0, 0)⟩] (by kernel_rfl)
    refine call hA [] on (hP) (by kernel_rfl) (by rintro e v ⟨vx, rfl, hbx, hox, -⟩; exact hbx) ?_
    rintro e w2 ⟨vx, rfl, hbx, hox, -⟩
    refine ⟨_, rfl, fun hA => ?_⟩
    obtain ⟨ob8x, hrx, hA2x⟩ := At.own hApx hbx hox
    refine reknow ⟨[⟨w.heap.size, .cells #[.int .i64 b.kind, .int .i64 b.runners, .slice A n c, .slice A2 m c2, .bool b.fav, .int .i64 b.car, .int .i64 b.dut, .int .i64 b.stp] 25 (0, 0)⟩], w2.heap.size, [], [], [], [], []⟩ hA2x (Nat.zero_le _) fun hA => ?_
    obtain ⟨Ax, cx, rfl, hptx⟩ := row_open hrx (by omega)
    refine runS hA 24 (List.replicate 6 (.g false) ++ [.g true, .g true, .g true]) xn (oc (rfl : Value.bool false = .bool false) (oc (rfl : Value.bool false = .bool false) (oc (rfl : Value.bool false = .bool false) (oc (rfl : Value.bool false = .bool false) (oc (rfl : Value.bool false = .bool false) (oc (rfl : Value.bool false = .bool false) (oc (rfl : Value.bool true = .bool true) (oc (rfl : Value.bool true = .bool true) (oc (rfl : Value.bool true = .bool true) on))))))))) (by kernel_rfl) fun w3 hA => ?_
    refine revals hA (rc 28 (eq_t (a := ((dvL b fs).length : Int)) (b := 0) (by omega)) rn) (by kernel_rfl) fun hA => ?_
    refine runS hA 7 [.g false] xn (oc (rfl : Value.bool false = .bool false) on) (by kernel_rfl) fun w4 hA => ?_
    have hAf := hA.atK [⟨w.heap.size, .cells #[.int .i64 b.kind, .int .i64 b.runners, .slice A n c, .slice A2 m c2, .bool b.fav, .int .i64 b.car, .int .i64 b.dut, .int .i64 b.stp] 25 (0, 0)⟩] (by kernel_rfl)
    exact ret (v := .tuple #[.slice Ax ((dvL b fs).length) cx, .bool true]) hA [] (by kernel_rfl) ⟨_, rfl, hA.below, hrx.own hAf⟩
  case neg =>
    rw [if_neg hb] at hP
    have hln : 0 < (dvL b fs).length := by rw [hdl]; exact List.length_pos_iff.2 hb
    have hApx := hA.atK [⟨w.heap.size, .cells #[.int .i64 b.kind, .int .i64 b.runners, .slice A n c, .slice A2 m c2, .bool b.fav, .int .i64 b.car, .int .i64 b.dut, .int .i64 b.stp] 25 (0, 0)⟩] (by kernel_rfl)
    refine call hA [] on (hP) (by kernel_rfl) (by rintro e v ⟨vx, rfl, hbx, hox, -⟩; exact hbx) ?_
    rintro e w2 ⟨vx, rfl, hbx, hox, -⟩
    refine ⟨_, rfl, fun hA => ?_⟩
    obtain ⟨ob8x, hrx, hA2x⟩ := At.own hApx hbx hox
    refine reknow ⟨[⟨w.heap.size, .cells #[.int .i64 b.kind, .int .i64 b.runners, .slice A n c, .slice A2 m c2, .bool b.fav, .int .i64 b.car, .int .i64 b.dut, .int .i64 b.stp] 25 (0, 0)⟩], w2.heap.size, [], [], [], [], []⟩ hA2x (Nat.zero_le _) fun hA => ?_
    obtain ⟨Ax, cx, rfl, hptx⟩ := row_open hrx (by omega)
    refine runS hA 16 [.g true, .g true, .g true] xn (oc (rfl : Value.bool true = .bool true) (oc (rfl : Value.bool true = .bool true) (oc (rfl : Value.bool true = .bool true) on))) (by kernel_rfl) fun w3 hA => ?_
    refine revals hA (rc 20 (dec_t (show (((dvL b fs).length : Nat) : Int) > 0 by omega)) rn) (by kernel_rfl) fun hA => ?_
    refine runS hA 15 (List.replicate 4 (.g true)) xn (oc (rfl : Value.bool true = .bool true) (oc (rfl : Value.bool true = .bool true) (oc (rfl : Value.bool true = .bool true) (oc (rfl : Value.bool true = .bool true) on)))) (by kernel_rfl) fun w4 hA => ?_
    have hAf := hA.atK [⟨w.heap.size, .cells #[.int .i64 b.kind, .int .i64 b.runners, .slice A n c, .slice A2 m c2, .bool b.fav, .int .i64 b.car, .int .i64 b.dut, .int .i64 b.stp] 25 (0, 0)⟩] (by kernel_rfl)
    exact ret (v := .tuple #[.slice Ax ((dvL b fs).length) cx, .bool true]) hA [] (by kernel_rfl) ⟨_, rfl, hA.below, hrx.own hAf⟩
end Go.Proofs.YtbahiemjaomdcaaGreat

/- pool: books whose bets, or numbers, are others: sums, accounts, dividends. -/
namespace Go.Proofs.YtbahiemjaomdcaaGreat
open Go.RowKit Go.Shelf

/-- A sum of units over bets that are told by what they are on. -/
def wS (f : Int → Int → Bool) (bs : List Bet) : Int := (bs.map fun x => if f x.first x.second = true then x.units else 0).sum
theorem wS_append (f : Int → Int → Bool) (xs ys : List Bet) : wS f (xs ++ ys) = wS f xs + wS f ys := by unfold wS; rw [List.map_append, List.sum_append]
theorem wS_perm (f : Int → Int → Bool) {xs ys : List Bet} (h : xs.Perm ys) : wS f xs = wS f ys := sum_perm (h.map _)
def okK (b : Bk) (u v : Int) : Bool := okF b ⟨u, v, 0⟩
def heK (t : Till) (u v : Int) : Bool := toHeir t ⟨u, v, 0⟩
def spK (t : Till) (u v : Int) : Int × Int := spX t ⟨u, v, 0⟩
def onK (t : Till) (u v : Int) : Bool := okT t ⟨u, v, 0⟩
theorem tally_w (b : Bk) (bs : List Bet) (i : Nat) : tallyF (okF b) (fun x => x.first) bs i = wS (fun u v => okK b u v && decide (u = (i : Int))) bs := by
  unfold tallyF wS
  congr 1
  refine List.map_congr_left fun x _ => ?_
  have : (okF b x = true ∧ x.first = (i : Int)) ↔ (okK b x.first x.second && decide (x.first = (i : Int))) = true := by rw [Bool.and_eq_true, decide_eq_true_eq]; rfl
  by_cases h : okF b x = true ∧ x.first = (i : Int)
  · rw [if_pos h, if_pos (this.1 h)]
  · rw [if_neg h, if_neg (fun h9 => h (this.2 h9))]
theorem uL_w (t : Till) (bs : List Bet) (s : Int × Int) : uL t bs s = wS (fun u v => onK t u v && decide (spK t u v = s)) bs := by
  unfold uL wS
  congr 1
  refine List.map_congr_left fun x _ => ?_
  have : (okT t x = true ∧ spX t x = s) ↔ (onK t x.first x.second && decide (spK t x.first x.second = s)) = true := by rw [Bool.and_eq_true, decide_eq_true_eq]; rfl
  by_cases h : okT t x = true ∧ spX t x = s
  · rw [if_pos h, if_pos (this.1 h)]
  · rw [if_neg h, if_neg (fun h9 => h (this.2 h9))]
theorem all_w (bs : List Bet) : sumF allB bs = wS (fun _ _ => true) bs := rfl
theorem notOn_w (t : Till) (bs : List Bet) : sumF (notOn t) bs = wS (fun u v => !onK t u v) bs := rfl
/-- A book with other bets. -/
def bkB (b : Bk) (bs : List Bet) : Bk := { b with bets := bs }
theorem bookF_bets {b : Bk} {bs : List Bet} (h0 : bookF b = 0) (hl : bs.length ≤ 100) (hr : ∀ x ∈ bs, refusesF b x = false) : bookF (bkB b bs) = 0 := by
  have V := valid_of h0
  have hw := bookF_eq (bkB b bs)
  have hbet : (bkB b bs).bets.any (refusesF (bkB b bs)) = false := by
    rw [List.any_eq_false]
    intro x hx
    have := hr x hx
    show ¬ refusesF b x = true
    rw [this]
    decide
  have hsc : scratchable (bkB b bs) (bkB b bs).scr = true := V.scr
  rw [hw, if_neg (show ¬ ¬ (0 ≤ (bkB b bs).kind ∧ (bkB b bs).kind ≤ 3) from Classical.not_not.2 V.kind), if_neg (show ¬ ¬ ((2 ≤ (bkB b bs).runners ∧ (bkB b bs).runners ≤ 8) ∧ (0 ≤ (bkB b bs).car ∧ (bkB b bs).car ≤ 1000000) ∧ (0 ≤ (bkB b bs).dut ∧ (bkB b bs).dut ≤ 500) ∧ (1 ≤ (bkB b bs).stp ∧ (bkB b bs).stp ≤ 100)) from Classical.not_not.2 ⟨V.run, V.car, V.dut, V.stp⟩), if_neg (show ¬ 100 < (bkB b bs).bets.length by show ¬ 100 < bs.length; omega), if_neg (by rw [hbet]; decide), if_neg (by rw [hsc]; decide)]
theorem racL_cong {b b' : Bk} (h : b'.scr = b.scr) : ∀ k, racL b' k = racL b k
  | 0 => rfl
  | k + 1 => by rw [racL, racL, racL_cong h k, h]
theorem racN_cong {b b' : Bk} (h : b'.scr = b.scr) (hr : b'.runners = b.runners) : racN b' = racN b := by unfold racN; rw [hr, racL_cong h]
theorem isFin_cong {b b' : Bk} (h : b'.scr = b.scr) (hr : b'.runners = b.runners) (fs : List (List Int)) : isFinF b' fs = isFinF b fs := by unfold isFinF; rw [racN_cong h hr]
theorem fin_bets (b : Bk) (bs : List Bet) (fs : List (List Int)) : isFinF (bkB b bs) fs = isFinF b fs := isFin_cong (b := b) (b' := bkB b bs) rfl rfl fs
theorem favF_same {b : Bk} {bs : List Bet} (h : ∀ f, wS f bs = wS f b.bets) : favF (bkB b bs) = favF b := by
  have e : tallyF (okF (bkB b bs)) (fun x => x.first) bs = tallyF (okF b) (fun x => x.first) b.bets := funext fun i => by
    rw [tally_w, tally_w, h]
    rfl
  show fgF (tallyF (okF (bkB b bs)) (fun x => x.first) bs) (racN (bkB b bs)) = fgF (tallyF (okF b) (fun x => x.first) b.bets) (racN b)
  rw [e, racN_cong (b := b) (b' := bkB b bs) rfl rfl]
theorem til_same {b : Bk} {bs : List Bet} (h : ∀ f, wS f bs = wS f b.bets) : tilF (bkB b bs) = { tilF b with b := bkB b bs } := by
  have e1 := favF_same h
  have e2 : inF ⟨bkB b bs, favF (bkB b bs), acc0⟩ = inF ⟨b, favF b, acc0⟩ := by
    unfold inF
    rw [all_w, all_w, notOn_w, notOn_w]
    show incF' (wS _ bs) (wS _ bs) b.car b.dut = incF' (wS _ b.bets) (wS _ b.bets) b.car b.dut
    rw [h, h, e1]
    rfl
  unfold tilF
  rw [e2, e1]
theorem uL_same {b : Bk} {bs : List Bet} (h : ∀ f, wS f bs = wS f b.bets) (s : Int × Int) : uL (tilF (bkB b bs)) bs s = uL (tilF b) b.bets s := by
  rw [uL_w, uL_w, h, til_same h]
  rfl
theorem bkd_same {b : Bk} {bs : List Bet} (h : ∀ f, wS f bs = wS f b.bets) (fs : List (List Int)) : bkd (tilF (bkB b bs)) fs = bkd (tilF b) fs := by
  show (winF b fs).filter (fun s => decide (uL (tilF (bkB b bs)) bs s ≠ 0)) = (winF b fs).filter fun s => decide (uL (tilF b) b.bets s ≠ 0)
  refine List.filter_congr fun s _ => ?_
  rw [uL_same h]
theorem dvF_same {b : Bk} {bs : List Bet} (h : ∀ f, wS f bs = wS f b.bets) (fs : List (List Int)) (s : Int × Int) : dvF (tilF (bkB b bs)) fs s = dvF (tilF b) fs s := by
  have ea : (tilF (bkB b bs)).a = (tilF b).a := by rw [til_same h]
  unfold dvF
  rw [bkd_same h]
  show (if s ∈ bkd (tilF b) fs then ((netF (tilF (bkB b bs)).a).tdiv ((bkd (tilF b) fs).length : Int)).tdiv (uL (tilF (bkB b bs)) bs s * b.stp) * b.stp else 0) = if s ∈ bkd (tilF b) fs then ((netF (tilF b).a).tdiv ((bkd (tilF b) fs).length : Int)).tdiv (uL (tilF b) b.bets s * b.stp) * b.stp else 0
  rw [uL_same h, ea]
theorem dvL_same {b : Bk} {bs : List Bet} (h : ∀ f, wS f bs = wS f b.bets) (fs : List (List Int)) : dvL (bkB b bs) fs = dvL b fs := by
  unfold dvL
  rw [bkd_same h]
  exact List.map_congr_left fun s _ => by rw [dvF_same h]
theorem pdF_same {b : Bk} {bs : List Bet} (h : ∀ f, wS f bs = wS f b.bets) (fs : List (List Int)) : pdF (tilF (bkB b bs)) fs = pdF (tilF b) fs := by
  unfold pdF
  rw [bkd_same h]
  refine sum_congr fun s _ => ?_
  rw [dvF_same h]
  show dvF (tilF b) fs s * uL (tilF (bkB b bs)) bs s = dvF (tilF b) fs s * uL (tilF b) b.bets s
  rw [uL_same h]
theorem acc_same {b : Bk} {bs : List Bet} (h0 : bookF b = 0) (h1 : bookF (bkB b bs) = 0) (h : ∀ f, wS f bs = wS f b.bets) {fs : List (List Int)} (hf : isFinF b fs = true) : AccountF (bkB b bs) fs = AccountF b fs := by
  have ea : (tilF (bkB b bs)).a = (tilF b).a := by rw [til_same h]
  rw [acc_eq h0 hf, acc_eq h1 (by rw [fin_bets]; exact hf), bkd_same h, pdF_same h, ea]
/-! ### bets in another order; two bets made one -/
def rotL (bs : List Bet) (k : Nat) : List Bet := bs.drop k ++ bs.take k
theorem rot_perm (bs : List Bet) (k : Nat) : (rotL bs k).Perm bs := by
  unfold rotL
  refine List.perm_append_comm.trans ?_
  rw [List.take_append_drop]
theorem rot_len (bs : List Bet) (k : Nat) : (rotL bs k).length = bs.length := (rot_perm bs k).length_eq
theorem rot_ok {b : Bk} (h0 : bookF b = 0) (k : Nat) : bookF (bkB b (rotL b.bets k)) = 0 := by
  have V := valid_of h0
  exact bookF_bets h0 (by rw [rot_len]; exact V.len) fun x hx => V.bet x ((rot_perm b.bets k).mem_iff.1 hx)
theorem rot_same (bs : List Bet) (k : Nat) : ∀ f, wS f (rotL bs k) = wS f bs := fun f => wS_perm f (rot_perm bs k)
def jn1 (bs : List Bet) (i j n : Nat) : List Bet :=
  if n = j then [] else if n = i then [⟨(bs[n]?.getD noBet).first, (bs[n]?.getD noBet).second, (bs[n]?.getD noBet).units + (bs[j]?.getD noBet).units⟩] else [bs[n]?.getD noBet]
def jnL (bs : List Bet) (i j : Nat) : Nat → List Bet
  | 0 => []
  | n + 1 => jnL bs i j n ++ jn1 bs i j n
theorem jnL_len (bs : List Bet) (i j : Nat) : ∀ n, (jnL bs i j n).length ≤ n
  | 0 => Nat.le_refl _
  | n + 1 => by
    have := jnL_len bs i j n
    rw [jnL, List.length_append]
    unfold jn1
    split
    · simp; omega
    · split <;> simp <;> omega
theorem jnL_sum {bs : List Bet} {i j : Nat} (hij : i ≠ j) (hj : j < bs.length) (h1 : (bs[i]?.getD noBet).first = (bs[j]?.getD noBet).first) (h2 : (bs[i]?.getD noBet).second = (bs[j]?.getD noBet).second) (f : Int → Int → Bool) : ∀ n, n ≤ bs.length →
    wS f (jnL bs i j n) = wS f (bs.take n) + (if i < n then wS f [bs[j]?.getD noBet] else 0) - (if j < n then wS f [bs[j]?.getD noBet] else 0)
  | 0, _ => by simp [jnL, wS]
  | n + 1, hn => by
    have ih := jnL_sum hij hj h1 h2 f n (by omega)
    have et : bs.take (n + 1) = bs.take n ++ [bs[n]?.getD noBet] := take_snoc (by omega)
    rw [jnL, wS_append, ih, et, wS_append]
    unfold jn1
    by_cases e1 : n = j
    · subst e1
      rw [if_pos rfl, if_neg (show ¬ n < n by omega), if_pos (show n < n + 1 by omega)]
      by_cases e2 : i < n
      · rw [if_pos e2, if_pos (show i < n + 1 by omega), show wS f [] = 0 from rfl]
        omega
      · rw [if_neg e2, if_neg (show ¬ i < n + 1 by omega), show wS f [] = 0 from rfl]
        omega
    · rw [if_neg e1]
      by_cases e2 : n = i
      · subst e2
        rw [if_pos rfl, if_neg (show ¬ n < n by omega), if_pos (show n < n + 1 by omega)]
        have e3 : wS f [⟨(bs[n]?.getD noBet).first, (bs[n]?.getD noBet).second, (bs[n]?.getD noBet).units + (bs[j]?.getD noBet).units⟩] = wS f [bs[n]?.getD noBet] + wS f [bs[j]?.getD noBet] := by
          simp only [wS, List.map_cons, List.map_nil, List.sum_cons, List.sum_nil, Int.add_zero]
          rw [← h1, ← h2]
          split <;> omega
        rw [e3]
        by_cases e4 : j < n
        · rw [if_pos e4, if_pos (show j < n + 1 by omega)]; omega
        · rw [if_neg e4, if_neg (show ¬ j < n + 1 by omega)]; omega
      · rw [if_neg e2]
        have a1 : (i < n + 1) ↔ i < n := by omega
        have a2 : (j < n + 1) ↔ j < n := by omega
        simp only [a1, a2]
        omega
theorem jn_same {bs : List Bet} {i j : Nat} (hij : i ≠ j) (hi : i < bs.length) (hj : j < bs.length) (h1 : (bs[i]?.getD noBet).first = (bs[j]?.getD noBet).first) (h2 : (bs[i]?.getD noBet).second = (bs[j]?.getD noBet).second) (f : Int → Int → Bool) : wS f (jnL bs i j bs.length) = wS f bs := by
  rw [jnL_sum hij hj h1 h2 f bs.length (Nat.le_refl _), if_pos hi, if_pos hj, List.take_length]
  omega
theorem refuses_units {b : Bk} {x : Bet} {u : Int} (h : refusesF b x = false) (hu : 1 ≤ u ∧ u ≤ 1000) : refusesF b ⟨x.first, x.second, u⟩ = false := by
  unfold refusesF at h ⊢
  split at h
  · cases h
  · rename_i h1
    simp only [Classical.not_not] at h1
    rw [if_neg]
    · exact h
    · rw [Classical.not_not]
      refine ⟨h1.1, ?_⟩
      rw [within_one]
      simp only [Bool.and_eq_true, decide_eq_true_eq]
      exact hu
theorem jn_mem {b : Bk} (V : ValidB b) {i j : Nat} (hi : i < b.bets.length) (hj : j < b.bets.length) (hu : (b.bets[i]?.getD noBet).units + (b.bets[j]?.getD noBet).units ≤ 1000) : ∀ n, n ≤ b.bets.length → ∀ x ∈ jnL b.bets i j n, refusesF b x = false
  | 0, _, x, hx => by cases hx
  | n + 1, hn, x, hx => by
    rw [jnL, List.mem_append] at hx
    rcases hx with hx | hx
    · exact jn_mem V hi hj hu n (by omega) x hx
    · have hm : b.bets[n]?.getD noBet ∈ b.bets := get_mem (by omega)
      unfold jn1 at hx
      split at hx
      · cases hx
      · split at hx
        · rename_i e
          rw [List.mem_singleton] at hx
          subst hx
          subst e
          have h1 := (V.first hm).2
          have h2 := (V.first (get_mem hj : b.bets[j]?.getD noBet ∈ b.bets)).2
          exact refuses_units (V.bet _ hm) (by omega)
        · rw [List.mem_singleton] at hx
          subst hx
          exact V.bet _ hm
theorem jn_ok {b : Bk} (h0 : bookF b = 0) {i j : Nat} (hi : i < b.bets.length) (hj : j < b.bets.length) (hu : (b.bets[i]?.getD noBet).units + (b.bets[j]?.getD noBet).units ≤ 1000) : bookF (bkB b (jnL b.bets i j b.bets.length)) = 0 := by
  have V := valid_of h0
  exact bookF_bets h0 (by have := jnL_len b.bets i j b.bets.length; have := V.len; omega) (jn_mem V hi hj hu _ (Nat.le_refl _))
end Go.Proofs.YtbahiemjaomdcaaGreat

/- pool: books with more carried over, more duty, a lesser step; a dividend out of a list. -/
namespace Go.Proofs.YtbahiemjaomdcaaGreat
open Go.RowKit Go.Shelf

def bkN (b : Bk) (c d s : Int) : Bk := { b with car := c, dut := d, stp := s }
theorem bookF_num {b : Bk} {c d s : Int} (h0 : bookF b = 0) (hc : 0 ≤ c ∧ c ≤ 1000000) (hd : 0 ≤ d ∧ d ≤ 500) (hs : 1 ≤ s ∧ s ≤ 100) : bookF (bkN b c d s) = 0 := by
  have V := valid_of h0
  have hw := bookF_eq (bkN b c d s)
  have hbet : (bkN b c d s).bets.any (refusesF (bkN b c d s)) = false := by
    rw [List.any_eq_false]
    intro x hx
    have := V.bet x hx
    show ¬ refusesF b x = true
    rw [this]
    decide
  have hsc : scratchable (bkN b c d s) (bkN b c d s).scr = true := V.scr
  rw [hw, if_neg (show ¬ ¬ (0 ≤ (bkN b c d s).kind ∧ (bkN b c d s).kind ≤ 3) from Classical.not_not.2 V.kind), if_neg (show ¬ ¬ ((2 ≤ (bkN b c d s).runners ∧ (bkN b c d s).runners ≤ 8) ∧ (0 ≤ (bkN b c d s).car ∧ (bkN b c d s).car ≤ 1000000) ∧ (0 ≤ (bkN b c d s).dut ∧ (bkN b c d s).dut ≤ 500) ∧ (1 ≤ (bkN b c d s).stp ∧ (bkN b c d s).stp ≤ 100)) from Classical.not_not.2 ⟨V.run, hc, hd, hs⟩), if_neg (show ¬ 100 < (bkN b c d s).bets.length by have := V.len; show ¬ 100 < b.bets.length; omega), if_neg (by rw [hbet]; decide), if_neg (by rw [hsc]; decide)]
theorem favF_num (b : Bk) (c d s : Int) : favF (bkN b c d s) = favF b := by
  show fgF (tallyF (okF b) (fun x => x.first) b.bets) (racN (bkN b c d s)) = fgF (tallyF (okF b) (fun x => x.first) b.bets) (racN b)
  rw [racN_cong (b := b) (b' := bkN b c d s) rfl rfl]
theorem on_num (b : Bk) (c d s : Int) (x : Bet) : okT (tilF (bkN b c d s)) x = okT (tilF b) x ∧ spX (tilF (bkN b c d s)) x = spX (tilF b) x := by
  refine ⟨rfl, ?_⟩
  show (if toHeir (tilF b) x = true then favF (bkN b c d s) else x.first, x.second) = (if toHeir (tilF b) x = true then favF b else x.first, x.second)
  rw [favF_num]
theorem uL_num (b : Bk) (c d s : Int) (p : Int × Int) : uL (tilF (bkN b c d s)) b.bets p = uL (tilF b) b.bets p := by
  unfold uL
  congr 1
  exact List.map_congr_left fun x _ => by rw [(on_num b c d s x).1, (on_num b c d s x).2]
theorem bkd_num (b : Bk) (c d s : Int) (fs : List (List Int)) : bkd (tilF (bkN b c d s)) fs = bkd (tilF b) fs := by
  show (winF b fs).filter (fun p => decide (uL (tilF (bkN b c d s)) b.bets p ≠ 0)) = (winF b fs).filter fun p => decide (uL (tilF b) b.bets p ≠ 0)
  exact List.filter_congr fun p _ => by rw [uL_num]
theorem isFin_num (b : Bk) (c d s : Int) (fs : List (List Int)) : isFinF (bkN b c d s) fs = isFinF b fs := isFin_cong (b := b) (b' := bkN b c d s) rfl rfl fs
theorem netF_num (b : Bk) (c d s : Int) : netF (tilF (bkN b c d s)).a = sumF allB b.bets * 100 + c - sumF (notOn (tilF b)) b.bets * 100 - ((sumF allB b.bets - sumF (notOn (tilF b)) b.bets) * 100 * d).tdiv 1000 := rfl
theorem net_up {b : Bk} (V : ValidB b) {c c' d d' s s' : Int} (hc : c ≤ c') (hd : 0 ≤ d' ∧ d' ≤ d) : netF (tilF (bkN b c d s)).a ≤ netF (tilF (bkN b c' d' s')).a := by
  have h3 := sumF_le (notOn (tilF b)) allB b.bets (fun x hx => (units_ok V x hx).1) (fun x _ => rfl)
  rw [netF_num, netF_num]
  generalize sumF allB b.bets = U at h3 ⊢
  generalize sumF (notOn (tilF b)) b.bets = K at h3 ⊢
  have h4 : 0 ≤ (U - K) * 100 := by omega
  have h5 : (U - K) * 100 * d' ≤ (U - K) * 100 * d := Int.mul_le_mul_of_nonneg_left hd.2 h4
  have h6 : 0 ≤ (U - K) * 100 * d' := Int.mul_nonneg h4 hd.1
  rw [Int.tdiv_eq_ediv_of_nonneg h6, Int.tdiv_eq_ediv_of_nonneg (by omega)]
  omega
theorem num_self (b : Bk) : bkN b b.car b.dut b.stp = b := rfl
theorem share_up {x y : Int} {L : Nat} (hx : 0 ≤ x) (h : x ≤ y) : x.tdiv (L : Int) ≤ y.tdiv (L : Int) := by
  rw [Int.tdiv_eq_ediv_of_nonneg hx, Int.tdiv_eq_ediv_of_nonneg (by omega)]
  exact Int.ediv_le_ediv_of_nonneg h
where
  Int.ediv_le_ediv_of_nonneg {x y : Int} {L : Nat} (h : x ≤ y) : x / (L : Int) ≤ y / (L : Int) := by
    by_cases hL : L = 0
    · subst hL; simp
    · exact Int.ediv_le_ediv (by omega) h
theorem div_up {x y u s : Int} (hx : 0 ≤ x) (h : x ≤ y) (hu : 0 < u) (hs : 0 < s) : (x.tdiv (u * s)) * s ≤ (y.tdiv (u * s)) * s := by
  rw [Int.tdiv_eq_ediv_of_nonneg hx, Int.tdiv_eq_ediv_of_nonneg (by omega)]
  exact Int.mul_le_mul_of_nonneg_right (Int.ediv_le_ediv (Int.mul_pos hu hs) h) (by omega)
theorem div_step {x u s : Int} (hx : 0 ≤ x) (hu : 0 < u) (hs : 0 < s) : (x.tdiv (u * s)) * s ≤ (x.tdiv (u * 1)) * 1 := by
  rw [Int.tdiv_eq_ediv_of_nonneg hx, Int.tdiv_eq_ediv_of_nonneg hx, Int.mul_one, Int.mul_one]
  refine (Int.le_ediv_iff_mul_le hu).2 ?_
  have := Int.ediv_mul_le x (show u * s ≠ 0 from Int.ne_of_gt (Int.mul_pos hu hs))
  rw [Int.mul_assoc, Int.mul_comm s u]
  exact this
theorem dvF_in {b : Bk} {fs : List (List Int)} {s : Int × Int} (h : s ∈ bkd (tilF b) fs) : dvF (tilF b) fs s = ((netF (tilF b).a).tdiv ((bkd (tilF b) fs).length : Int)).tdiv (uL (tilF b) b.bets s * b.stp) * b.stp := if_pos h
theorem sh_nonneg {b : Bk} (V : ValidB b) (L : Nat) : 0 ≤ (netF (tilF b).a).tdiv (L : Int) := by
  have hn := (net_facts V).1.2.2
  rw [Int.tdiv_eq_ediv_of_nonneg hn]
  exact Int.ediv_nonneg hn (by omega)
theorem up_pos {b : Bk} {fs : List (List Int)} (V : ValidB b) {s : Int × Int} (hs : s ∈ bkd (tilF b) fs) : 0 < uL (tilF b) b.bets s := (dv_facts V hs).1
theorem dv_num {b : Bk} {fs : List (List Int)} (V : ValidB b) {c d : Int} (hc : b.car ≤ c) (hd : 0 ≤ d ∧ d ≤ b.dut) (s : Int × Int) : dvF (tilF b) fs s ≤ dvF (tilF (bkN b c d b.stp)) fs s := by
  by_cases hs : s ∈ bkd (tilF b) fs
  · have hs' : s ∈ bkd (tilF (bkN b c d b.stp)) fs := by rw [bkd_num]; exact hs
    rw [dvF_in hs, dvF_in hs', bkd_num, show uL (tilF (bkN b c d b.stp)) (bkN b c d b.stp).bets s = uL (tilF b) b.bets s from uL_num b c d b.stp s]
    have hst := V.stp
    exact div_up (sh_nonneg V _) (share_up (net_facts V).1.2.2 (net_up (s := b.stp) (s' := b.stp) V hc hd)) (up_pos V hs) (show (0 : Int) < b.stp by omega)
  · have hs' : s ∉ bkd (tilF (bkN b c d b.stp)) fs := by rw [bkd_num]; exact hs
    unfold dvF
    rw [if_neg hs, if_neg hs']
    exact Int.le_refl 0
theorem dv_dut {b : Bk} {fs : List (List Int)} {d : Int} (V : ValidB b) (V2 : ValidB (bkN b b.car d b.stp)) (hd : b.dut ≤ d) (s : Int × Int) : dvF (tilF (bkN b b.car d b.stp)) fs s ≤ dvF (tilF b) fs s :=
  dv_num (b := bkN b b.car d b.stp) (c := b.car) (d := b.dut) V2 (Int.le_refl _) ⟨V.dut.1, hd⟩ s
theorem pd_step {b : Bk} {fs : List (List Int)} (V : ValidB b) : pdF (tilF b) fs ≤ pdF (tilF (bkN b b.car b.dut 1)) fs := by
  unfold pdF
  rw [bkd_num]
  refine sum_up fun s hs => ?_
  have hu := up_pos V hs
  have hst := V.stp
  have hs' : s ∈ bkd (tilF (bkN b b.car b.dut 1)) fs := by rw [bkd_num]; exact hs
  have eu : uL (tilF (bkN b b.car b.dut 1)) (bkN b b.car b.dut 1).bets s = uL (tilF b) b.bets s := uL_num b b.car b.dut 1 s
  show _ ≤ _ * uL (tilF (bkN b b.car b.dut 1)) (bkN b b.car b.dut 1).bets s
  rw [eu]
  refine Int.mul_le_mul_of_nonneg_right ?_ (Int.le_of_lt hu)
  rw [dvF_in hs, dvF_in hs', bkd_num, eu]
  exact div_step (sh_nonneg V _) hu (by omega)
where
  sum_up {α : Type} {l : List α} {f g : α → Int} (h : ∀ x ∈ l, f x ≤ g x) : (l.map f).sum ≤ (l.map g).sum := by
    induction l with
    | nil => exact Int.le_refl 0
    | cons x l ih =>
      have h1 := h x List.mem_cons_self
      have h2 := ih fun y hy => h y (List.mem_cons_of_mem _ hy)
      rw [List.map_cons, List.map_cons, List.sum_cons, List.sum_cons]
      omega
theorem acc_paid {b : Bk} {fs : List (List Int)} (h0 : bookF b = 0) (h : isFinF b fs = true) : (AccountF b fs).paid = pdF (tilF b) fs := by
  rw [acc_eq h0 h]
  split
  · rename_i hb
    unfold pdF
    rw [hb]
    rfl
  · rfl
/-- The dividend of a winner in a list, 0 if it has none. -/
def pnF (ds : List ((Int × Int) × Int)) (s : Int × Int) : Int := match ds.find? fun d => decide (d.1 = s) with
  | some d => d.2
  | none => 0
theorem pnF_at {ds : List ((Int × Int) × Int)} {s : Int × Int} {i : Nat} (hi : i < ds.length) (h : ∀ j, j < i → (ds[j]?.getD ((0, 0), 0)).1 ≠ s) (e : (ds[i]?.getD ((0, 0), 0)).1 = s) : pnF ds s = (ds[i]?.getD ((0, 0), 0)).2 := by
  have : ds.find? (fun d => decide (d.1 = s)) = some (ds[i]?.getD ((0, 0), 0)) := by
    rw [List.find?_eq_some_iff_getElem]
    refine ⟨by simpa using e, i, hi, by rw [List.getElem?_eq_getElem hi]; rfl, fun j hj => ?_⟩
    have h1 := h j hj
    rw [List.getElem?_eq_getElem (by omega)] at h1
    simpa using h1
  unfold pnF
  rw [this]
theorem pnF_no {ds : List ((Int × Int) × Int)} {s : Int × Int} (h : ∀ j, j < ds.length → (ds[j]?.getD ((0, 0), 0)).1 ≠ s) : pnF ds s = 0 := by
  have : ds.find? (fun d => decide (d.1 = s)) = none := by
    rw [List.find?_eq_none]
    intro x hx
    obtain ⟨j, hj, rfl⟩ := List.mem_iff_getElem.1 hx
    have h1 := h j hj
    rw [List.getElem?_eq_getElem hj] at h1
    simpa using h1
  unfold pnF
  rw [this]
theorem dvL_get {b : Bk} {fs : List (List Int)} {i : Nat} (h : i < (dvL b fs).length) : (dvL b fs)[i]?.getD ((0, 0), 0) = ((bkd (tilF b) fs)[i]?.getD (0, 0), dvF (tilF b) fs ((bkd (tilF b) fs)[i]?.getD (0, 0))) := by
  have h2 : i < (bkd (tilF b) fs).length := by unfold dvL at h; rwa [List.length_map] at h
  rw [List.getElem?_eq_getElem h, List.getElem?_eq_getElem h2]
  unfold dvL
  simp only [Option.getD_some]
  exact List.getElem_map _
theorem pn_dv {b : Bk} {fs : List (List Int)} (s : Int × Int) : pnF (dvL b fs) s = dvF (tilF b) fs s := by
  by_cases hs : s ∈ bkd (tilF b) fs
  · have key : ∀ l : List (Int × Int), s ∈ l → pnF (l.map fun s => (s, dvF (tilF b) fs s)) s = dvF (tilF b) fs s := by
      intro l
      induction l with
      | nil => intro h; cases h
      | cons x l ih =>
        intro h
        unfold pnF
        rw [List.map_cons, List.find?_cons]
        by_cases e : x = s
        · subst e
          rw [decide_eq_true rfl]
        · rw [decide_eq_false e]
          refine ih ?_
          rcases List.mem_cons.1 h with h | h
          · exact absurd h.symm e
          · exact h
    exact key _ hs
  · rw [show dvF (tilF b) fs s = 0 from if_neg hs]
    refine pnF_no fun j hj e => ?_
    rw [dvL_get hj] at e
    have h2 : j < (bkd (tilF b) fs).length := by unfold dvL at hj; rwa [List.length_map] at hj
    exact hs (e ▸ get_mem h2)
theorem dvL_len (b : Bk) (fs : List (List Int)) : (dvL b fs).length = (bkd (tilF b) fs).length := by unfold dvL; rw [List.length_map]
theorem dvL_len2 {b : Bk} {fs : List (List Int)} (h0 : bookF b = 0) (hfin : isFinF b fs = true) : (dvL b fs).length ≤ 1000 := by
  rw [dvL_len]
  have := (at_ok (b := b) (fs := fs) (by unfold atF; rw [if_pos h0, if_pos hfin])).2.ws
  exact Nat.le_trans (List.length_filter_le _ _) this
end Go.Proofs.YtbahiemjaomdcaaGreat

/- law of pool: paid, told as a slice. -/
namespace Go.Proofs.YtbahiemjaomdcaaGreat
open Go.RowKit Go.Shelf

theorem own_slice {w : World} {B : Nat} {T : TypeId} {v : Value} {n k : Nat} {vs : List Value} (h : w.ownsRow B T k v n vs) : ∃ A c, v = .slice A n c := by
  rcases h.2 with ⟨h1, h2⟩ | ⟨g, cap, cur, h1, -⟩
  · subst h2; exact ⟨none, 0, h1⟩
  · exact ⟨_, cap, h1⟩
theorem row_at {T : TypeId} {k n c : Nat} {A : Option Addr} {vs : List Value} {ob : List KB} (hr : RowV T k (.slice A n c) n vs ob) (hn : n ≤ 1000) : ∀ w : World, (∀ kb ∈ ob, w.heap[kb.id]? = some kb.obj) → PartsAt w w.heap.size A n k vs := by
  obtain ⟨A', c', e, h⟩ := row_open hr hn
  cases e
  exact h
theorem paidS_any (w : World) (B : Nat) (b : Bk) (A : Option Addr) (n c : Nat) (A2 : Option Addr) (m c2 : Nat) (A3 : Option Addr) (nf cf : Nat) (fs : List (List Int)) (ds : List ((Int × Int) × Int)) (LN : Nat) (h : BkAt w B b A n c A2 m c2) (hf : FinAt w B A3 nf fs) (hB : B ≤ w.heap.size) (h0 : bookF b = 0) (hfin : isFinF b fs = true) (hd : dvL b fs = ds) (hl : ds.length = LN) : Calls Tryz.prog 22 #[bkV b A n c A2 m c2, .slice A3 nf cf] w fun e w' => ∃ A9 c9, e = .returned (.tuple #[.slice A9 LN c9, .bool true]) ∧ Below w.heap.size w w' ∧ w'.ownsRow w.heap.size 59 3 (.slice A9 LN c9) LN (encD ds) := by
  subst hd hl
  refine (paid_any w B b A n c A2 m c2 A3 nf cf fs h hf hB h0 hfin).mono ?_
  rintro e w' ⟨v, rfl, hb, ho⟩
  obtain ⟨A9, c9, rfl⟩ := own_slice ho
  exact ⟨A9, c9, rfl, hb, ho⟩
end Go.Proofs.YtbahiemjaomdcaaGreat
