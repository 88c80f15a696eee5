/- Parts of a proof: WF WG WH YO ZF ZI. -/
import Derived.Test.YtbahiemjaomdcaaGreatQ16

/- pool: two groups that come in together. -/
namespace Go.Proofs.YtbahiemjaomdcaaGreat
open Go.RowKit Go.Shelf

theorem grpF_all : ∀ (fs : List (List Int)) (co c : List Int), co.Nodup → grpF co fs = some c → ∀ x, x ∈ co → x ∉ c → ∃ F ∈ fs, x ∈ F
  | [], co, c, _, h, x, hx, hc => by rw [grpF] at h; cases h; exact absurd hx hc
  | F :: fs, co, c, hn, h, x, hx, hc => by
    rw [grpF] at h
    split at h
    · cases h
    · cases hr : remF co F with
      | none => rw [hr] at h; cases h
      | some c2 =>
        rw [hr, Option.bind_some] at h
        obtain ⟨k1, k2, k3⟩ := remF_sub F co c2 hn hr
        by_cases hxF : x ∈ F
        · exact ⟨F, List.mem_cons_self, hxF⟩
        · obtain ⟨G, hG, hxG⟩ := grpF_all fs c2 c k3 h x ((k2 x).2 ⟨hx, hxF⟩) hc
          exact ⟨G, List.mem_cons_of_mem _ hG, hxG⟩
theorem fin_cov {b : Bk} {fs : List (List Int)} (h : isFinF b fs = true) {x : Int} (hx : x ∈ racN b) : ∃ F ∈ fs, x ∈ F :=
  grpF_all fs _ _ (racN_nodup b) (of_decide_eq_true h) x hx (by simp)
theorem fin_of_parts {b : Bk} {fs : List (List Int)} (h1 : ∀ F ∈ fs, F ≠ [] ∧ F.Pairwise (fun x y => x < y) ∧ ∀ x ∈ F, x ∈ racN b) (h2 : fs.Pairwise fun F G => ∀ x ∈ F, x ∉ G) (h3 : ∀ x ∈ racN b, ∃ F ∈ fs, x ∈ F) : isFinF b fs = true :=
  decide_eq_true (grpF_ok _ _ (racN_nodup b) h1 h2 h3)
/-- The list without one place; the runners of two groups. -/
def outL (fs : List (List Int)) (q : Nat) : Nat → List (List Int)
  | 0 => []
  | n + 1 => outL fs q n ++ if n = q then [] else [fs[n]?.getD []]
def mrgL (F G : List Int) : Nat → List Int
  | 0 => []
  | n + 1 => mrgL F G n ++ if (n : Int) ∈ F ∨ (n : Int) ∈ G then [(n : Int)] else []
/-- The finish in which two groups come in together. -/
def togF (b : Bk) (fs : List (List Int)) (k : Nat) : List (List Int) := (outL fs (k + 1) fs.length).set k (mrgL (fs[k]?.getD []) (fs[k + 1]?.getD []) b.runners.toNat)
theorem pw_get {fs : List (List Int)} (h : fs.Pairwise fun F G => ∀ x ∈ F, x ∉ G) {i j : Nat} (hj : j < fs.length) (hij : i < j) {x : Int} (hx : x ∈ fs[i]?.getD []) : x ∉ fs[j]?.getD [] := by
  have := List.pairwise_iff_getElem.1 h i j (by omega) hj hij
  rw [List.getElem?_eq_getElem (by omega)] at hx
  rw [List.getElem?_eq_getElem hj]
  exact this x hx
theorem get_mem' {fs : List (List Int)} {j : Nat} (hj : j < fs.length) : fs[j]?.getD [] ∈ fs := get_mem hj
end Go.Proofs.YtbahiemjaomdcaaGreat

/- pool: a runner on which nobody has bet, scratched. -/
namespace Go.Proofs.YtbahiemjaomdcaaGreat
open Go.RowKit Go.Shelf

theorem racL_pw (b : Bk) : ∀ k, (racL b k).Pairwise fun x y => x < y
  | 0 => List.Pairwise.nil
  | k + 1 => by
    rw [racL, List.pairwise_append]
    refine ⟨racL_pw b k, by split <;> simp, fun x hx y hy => ?_⟩
    have h1 := ((racL_mem b).1 hx).1
    split at hy
    · cases hy
    · rw [List.mem_singleton.1 hy]; omega
section
variable {b : Bk} {r : Int} (h0 : bookF b = 0) (hr : r ∈ racN b) (h3 : 3 ≤ (racN b).length) (hn : ∀ x ∈ b.bets, x.first ≠ r ∧ x.second ≠ r) (hf : favF b ≠ r)
end
/-- The bets that are not on a runner. -/
def offL (bs : List Bet) (r : Int) : List Bet := bs.filter fun x => decide (x.first ≠ r) && decide (x.second ≠ r)
end Go.Proofs.YtbahiemjaomdcaaGreat

/- pool: from what to what is paid for all finishes. -/
namespace Go.Proofs.YtbahiemjaomdcaaGreat
open Go.RowKit Go.Shelf

theorem grs_mem (rs : List Int) : ∀ (n : Nat) (xs : List Int), xs.length = n → ∀ g : List Int, g.Sublist xs → g ∈ grsF xs
  | 0, xs, hl, g, h => by
    have := List.length_eq_zero_iff.1 hl
    subst this
    have := List.sublist_nil.1 h
    subst this
    exact List.mem_cons_self
  | n + 1, xs, hl, g, h => by
    obtain ⟨ys, y, rfl⟩ : ∃ ys y, xs = ys ++ [y] := ⟨xs.dropLast, xs.getLast (by intro e; rw [e] at hl; cases hl), (List.dropLast_concat_getLast _).symm⟩
    have hyl : ys.length = n := by rw [List.length_append] at hl; simpa using hl
    rw [grsF_snoc, List.mem_append]
    obtain ⟨l1, l2, rfl, h1, h2⟩ := List.sublist_append_iff.1 h
    have i1 := grs_mem rs n ys hyl l1 h1
    rcases l2 with _ | ⟨z, l2⟩
    · rw [List.append_nil]; exact .inl i1
    · have hz := h2.length_le
      have : l2 = [] := by
        rcases l2 with _ | ⟨u, l2⟩
        · rfl
        · simp at hz
      subst this
      have := List.singleton_sublist.1 h2
      rw [List.mem_singleton] at this
      subst this
      exact .inr (List.mem_map.2 ⟨l1, i1, rfl⟩)
theorem sub_of_pw {F rs : List Int} (h1 : F.Pairwise fun x y => x < y) (h2 : rs.Pairwise fun x y => x < y) (h : ∀ x ∈ F, x ∈ rs) : F.Sublist rs := by
  have e : F = rs.filter fun x => decide (x ∈ F) := by
    refine incr_ext h1 (h2.filter _) fun x => ?_
    rw [List.mem_filter, decide_eq_true_eq]
    exact ⟨fun hx => ⟨h x hx, hx⟩, fun hx => hx.2⟩
  rw [e]
  exact List.filter_sublist
theorem grp_mem {b : Bk} {F : List Int} (h0 : F.length ≠ 0) (h1 : F.Pairwise fun x y => x < y) (h : ∀ x ∈ F, x ∈ racN b) : F ∈ groupsF b := by
  have hm := grs_mem [] _ _ rfl F (sub_of_pw h1 (racL_pw b _) h)
  unfold groupsF
  obtain ⟨l, hl, -⟩ := grsF_head (racN b) (racN b).length (Nat.le_refl _)
  rw [List.take_length] at hl
  have hm2 : F ∈ grsF (racN b) := hm
  rw [hl] at hm2 ⊢
  rcases List.mem_cons.1 hm2 with h9 | h9
  · rw [h9] at h0; exact absurd rfl h0
  · exact h9
theorem grp_sub {b : Bk} {F : List Int} (h : F ∈ groupsF b) : F.length ≠ 0 ∧ F.Pairwise fun x y => x < y := by
  have h1 : F ∈ grsF (racN b) := List.mem_of_mem_drop h
  obtain ⟨l, hl, hp⟩ := grsF_head (racN b) (racN b).length (Nat.le_refl _)
  rw [List.take_length] at hl
  have h2 : F ∈ l := by
    unfold groupsF at h
    rw [hl] at h
    exact h
  refine ⟨by have := hp F h2; omega, ?_⟩
  have key : ∀ (n : Nat) (xs : List Int), xs.length = n → xs.Pairwise (fun x y => x < y) → ∀ g ∈ grsF xs, g.Sublist xs := by
    intro n
    induction n with
    | zero =>
      intro xs hx _ g hg
      have := List.length_eq_zero_iff.1 hx
      subst this
      rw [List.mem_singleton.1 (show g ∈ [[]] from hg)]
      exact List.Sublist.refl _
    | succ n ih =>
      intro xs hx hp g hg
      obtain ⟨ys, y, rfl⟩ : ∃ ys y, xs = ys ++ [y] := ⟨xs.dropLast, xs.getLast (by intro e; rw [e] at hx; cases hx), (List.dropLast_concat_getLast _).symm⟩
      have hyl : ys.length = n := by rw [List.length_append] at hx; simpa using hx
      rw [List.pairwise_append] at hp
      rw [grsF_snoc, List.mem_append, List.mem_map] at hg
      rcases hg with hg | ⟨g', hg', rfl⟩
      · exact (ih ys hyl hp.1 g hg).trans (List.sublist_append_left _ _)
      · exact (ih ys hyl hp.1 g' hg').append (List.Sublist.refl _)
  exact List.Pairwise.sublist (key _ _ rfl (racL_pw b _) F h1) (racL_pw b _)
/-- The winners of a finish, or of how one begins, are all different ones. -/
theorem win_nd {b : Bk} {fs : List (List Int)} (h0 : (fs[0]?.getD []).Pairwise fun x y => x < y) (h1 : (fs[0]?.getD []).length = 1 → (fs[0]?.getD [] ++ fs[1]?.getD []).Nodup) : (winF b fs).Nodup := by
  have ne : ∀ {l : List (Int × Int)}, l.Pairwise lexB → l.Nodup := fun h => h.imp fun h e => by subst e; unfold lexB at h; omega
  have hp : (plaF fs).Pairwise fun x y => x < y := by
    unfold plaF
    split
    · rename_i e; exact srtF_pw (h1 e)
    · exact h0
  unfold winF
  split
  · exact ne (sinF_pw h0)
  · split
    · exact ne (sinF_pw hp)
    · split
      · exact ne (prsF_pw _ hp)
      · exact ne (prsF_pw _ hp)
theorem paid_pd {b : Bk} {fs : List (List Int)} (V : ValidB b) (hw : (winF b fs).Nodup) : paidF b fs = pdF (tilF b) fs := by
  have hp := (acc_ok V).2
  unfold paidF accF
  rw [padF_eq (t := tilF b) hw, hp, Int.zero_add, pay_len (t := tilF b) hw]
  split
  · rename_i e
    have hb := List.length_eq_zero_iff.1 e
    show (tilF b).a.paid = _
    rw [hp]
    unfold pdF
    rw [hb]
    rfl
  · rfl
theorem head_nd {b : Bk} {hd : List (List Int)} (h : hd ∈ headsL (groupsF b)) : (winF b hd).Nodup := by
  unfold headsL at h
  rw [List.mem_flatMap] at h
  obtain ⟨f, hf, hh⟩ := h
  obtain ⟨f0, f1⟩ := grp_sub hf
  unfold headF at hh
  split at hh
  · rename_i hl
    rw [List.mem_singleton.1 hh]
    exact win_nd f1 fun e => by
      have e : f.length = 1 := e
      omega
  · rename_i hl
    unfold secW at hh
    rw [List.mem_map] at hh
    obtain ⟨s, hs, rfl⟩ := hh
    rw [List.mem_filter] at hs
    obtain ⟨s0, s1⟩ := grp_sub hs.1
    refine win_nd f1 fun e => ?_
    show (f ++ s).Nodup
    have hx : f = [f[0]?.getD 0] := by
      rcases f with _ | ⟨x, _ | ⟨y, f⟩⟩
      · exact absurd rfl f0
      · rfl
      · simp at hl
    have hn : f[0]?.getD 0 ∉ s := by simpa using hs.2
    rw [List.nodup_append]
    refine ⟨f1.imp fun h => by omega, s1.imp fun h => by omega, fun a ha c hc e2 => ?_⟩
    rw [hx, List.mem_singleton] at ha
    rw [← ha, e2] at hn
    exact hn hc
theorem fin_head {b : Bk} {fs : List (List Int)} (V : ValidB b) (h : isFinF b fs = true) : ∃ hd ∈ headsL (groupsF b), winF b hd = winF b fs := by
  obtain ⟨p1, p2⟩ := fin_sub h
  have K := fin_ok V h
  obtain ⟨q1, q2, q3⟩ := p1 _ (get_mem' K.pos)
  have g0 := grp_mem q1 (incF_pw q2) q3
  by_cases hl : (fs[0]?.getD []).length = 1
  · obtain ⟨k1, k2⟩ := K.one hl
    obtain ⟨r1, r2, r3⟩ := p1 _ (get_mem' k1)
    have g1 := grp_mem r1 (incF_pw r2) r3
    refine ⟨[fs[0]?.getD [], fs[1]?.getD []], ?_, ?_⟩
    · unfold headsL
      rw [List.mem_flatMap]
      refine ⟨_, g0, ?_⟩
      unfold headF secW
      rw [if_neg (by omega), List.mem_map]
      refine ⟨_, List.mem_filter.2 ⟨g1, ?_⟩, rfl⟩
      have hm : (fs[0]?.getD [])[0]?.getD 0 ∈ fs[0]?.getD [] := get_mem (by omega)
      have := pw_get p2 k1 (by omega) hm
      simpa using this
    · have e : plaF [fs[0]?.getD [], fs[1]?.getD []] = plaF fs := by
        unfold plaF
        rfl
      unfold winF
      rw [e]
      rfl
  · refine ⟨[fs[0]?.getD []], ?_, ?_⟩
    · unfold headsL
      rw [List.mem_flatMap]
      refine ⟨_, g0, ?_⟩
      unfold headF
      rw [if_pos (by omega)]
      exact List.mem_cons_self
    · have e : plaF [fs[0]?.getD []] = plaF fs := by
        unfold plaF
        show (if (fs[0]?.getD []).length = 1 then _ else _) = _
        rw [if_neg hl, if_neg hl]
        rfl
      unfold winF
      rw [e]
      rfl
theorem pd_win {b : Bk} {fs gs : List (List Int)} (h : winF b fs = winF b gs) : pdF (tilF b) fs = pdF (tilF b) gs := by
  have e : bkd (tilF b) fs = bkd (tilF b) gs := by
    show (winF b fs).filter _ = (winF b gs).filter _
    rw [h]
  unfold pdF
  rw [e]
  refine sum_congr fun s _ => ?_
  unfold dvF
  rw [e]
theorem spr_fold (b : Bk) (m : Int) : ∀ (l : List (List (List Int))) (p : Int × Int), (∀ x ∈ l, 0 ≤ paidF b x ∧ paidF b x ≤ m) → 0 ≤ p.1 → p.2 ≤ m →
    (0 ≤ (l.foldl (spr1 b) p).1 ∧ (l.foldl (spr1 b) p).2 ≤ m) ∧ ((l.foldl (spr1 b) p).1 ≤ p.1 ∧ p.2 ≤ (l.foldl (spr1 b) p).2) ∧ ∀ x ∈ l, (l.foldl (spr1 b) p).1 ≤ paidF b x ∧ paidF b x ≤ (l.foldl (spr1 b) p).2
  | [], p, _, h1, h2 => ⟨⟨h1, h2⟩, ⟨Int.le_refl _, Int.le_refl _⟩, fun x hx => by cases hx⟩
  | y :: l, p, h, h1, h2 => by
    obtain ⟨hy1, hy2⟩ := h y List.mem_cons_self
    have e1 : (spr1 b p y).1 ≤ p.1 ∧ (spr1 b p y).1 ≤ paidF b y ∧ 0 ≤ (spr1 b p y).1 := by unfold spr1; simp only; split <;> omega
    have e2 : p.2 ≤ (spr1 b p y).2 ∧ paidF b y ≤ (spr1 b p y).2 ∧ (spr1 b p y).2 ≤ m := by unfold spr1; simp only; split <;> omega
    obtain ⟨i1, i2, i3⟩ := spr_fold b m l (spr1 b p y) (fun x hx => h x (List.mem_cons_of_mem _ hx)) e1.2.2 e2.2.2
    rw [List.foldl_cons]
    refine ⟨i1, ⟨by omega, by omega⟩, fun x hx => ?_⟩
    rcases List.mem_cons.1 hx with rfl | hx
    · omega
    · exact i3 x hx
theorem none_bkd {b : Bk} (V : ValidB b) (h : noneF (tallyF (okT (tilF b)) (s1T (tilF b)) b.bets) = true) (fs : List (List Int)) : bkd (tilF b) fs = [] := by
  have hno : ∀ x ∈ b.bets, okT (tilF b) x ≠ true := by
    intro x hx ho
    have h1 := s1_ok V x hx ho
    unfold noneF at h
    have h2 := List.all_eq_true.1 h (s1T (tilF b) x).toNat (List.mem_range.2 (by omega))
    have h3 : tallyF (okT (tilF b)) (s1T (tilF b)) b.bets (s1T (tilF b) x).toNat = 0 := by simpa using h2
    have key : ∀ bs : List Bet, (∀ y ∈ bs, 0 ≤ y.units ∧ y.units ≤ 1000) → x ∈ bs → x.units ≤ tallyF (okT (tilF b)) (s1T (tilF b)) bs (s1T (tilF b) x).toNat := by
      intro bs
      induction bs with
      | nil => intro _ h; cases h
      | cons y bs ih =>
        intro h0 hm
        have e : tallyF (okT (tilF b)) (s1T (tilF b)) (y :: bs) (s1T (tilF b) x).toNat = (if okT (tilF b) y = true ∧ s1T (tilF b) y = (((s1T (tilF b) x).toNat : Nat) : Int) then y.units else 0) + tallyF (okT (tilF b)) (s1T (tilF b)) bs (s1T (tilF b) x).toNat := by simp [tallyF]
        have hb := tallyF_bound (okT (tilF b)) (s1T (tilF b)) bs (s1T (tilF b) x).toNat fun z hz => h0 z (List.mem_cons_of_mem _ hz)
        have hy := h0 y List.mem_cons_self
        rw [e]
        rcases List.mem_cons.1 hm with rfl | hm
        · rw [if_pos ⟨ho, by omega⟩]; omega
        · have := ih (fun z hz => h0 z (List.mem_cons_of_mem _ hz)) hm
          split <;> omega
    have h4 := key b.bets (units_ok V) hx
    have h5 := (V.first hx).2
    omega
  have hz : ∀ s, uL (tilF b) b.bets s = 0 := by
    intro s
    have : uL (tilF b) b.bets s = (b.bets.map fun _ => (0 : Int)).sum := by
      unfold uL
      congr 1
      exact List.map_congr_left fun x hx => if_neg fun h9 => hno x hx h9.1
    rw [this]
    have h1 : ∀ l : List Bet, (l.map fun _ => (0 : Int)).sum = 0 := fun l => by induction l with | nil => rfl | cons x l ih => simp [ih]
    exact h1 _
  rw [List.eq_nil_iff_forall_not_mem]
  intro s hs
  exact (bkd_mem.1 hs).2 (hz s)
theorem spread_ok {b : Bk} (h0 : bookF b = 0) {fs : List (List Int)} (h : isFinF b fs = true) : (0 ≤ (sprF b).1 ∧ (sprF b).2 ≤ netF (tilF b).a) ∧ (sprF b).1 ≤ pdF (tilF b) fs ∧ pdF (tilF b) fs ≤ (sprF b).2 := by
  have V := valid_of h0
  have hn := (net_facts V).1.2.2
  unfold sprF
  rw [if_pos h0]
  by_cases hno : noneF (tallyF (okT (tilF b)) (s1T (tilF b)) b.bets) = true
  · rw [if_pos hno]
    have hb := none_bkd V hno fs
    have hp : pdF (tilF b) fs = 0 := by unfold pdF; rw [hb]; rfl
    rw [hp]
    exact ⟨⟨Int.le_refl 0, hn⟩, Int.le_refl 0, Int.le_refl 0⟩
  · rw [if_neg hno]
    have hall : ∀ x ∈ headsL (groupsF b), 0 ≤ paidF b x ∧ paidF b x ≤ netF (tilF b).a := fun x hx => by
      rw [paid_pd V (head_nd hx)]
      exact pd_facts V
    obtain ⟨i1, i2, i3⟩ := spr_fold b (netF (tilF b).a) (headsL (groupsF b)) (9223372036854775807, 0) hall (by decide) hn
    obtain ⟨hd, hm, he⟩ := fin_head V h
    have i4 := i3 hd hm
    rw [paid_pd V (head_nd hm), pd_win he] at i4
    exact ⟨i1, i4⟩
theorem acc_left {b : Bk} (h0 : bookF b = 0) {fs : List (List Int)} (h : isFinF b fs = true) : (AccountF b fs).paid = pdF (tilF b) fs ∧ (AccountF b fs).paid + (AccountF b fs).kept + (AccountF b fs).over = netF (tilF b).a := by
  have e : (AccountF b fs).paid = pdF (tilF b) fs := acc_paid h0 h
  refine ⟨e, ?_⟩
  rw [e, acc_eq h0 h]
  split
  · rename_i hb
    unfold pdF
    rw [hb]
    show 0 + 0 + netF (tilF b).a = _
    omega
  · show pdF (tilF b) fs + (netF (tilF b).a - pdF (tilF b) fs) + 0 = _
    omega
end Go.Proofs.YtbahiemjaomdcaaGreat

/- law of pool: groups that come in together, in the memory. -/
namespace Go.Proofs.YtbahiemjaomdcaaGreat
open Go.RowKit Go.Shelf

def vAt (vs : List Value) (j : Nat) : Value := vs[j]?.getD (.bool false)
def outV (vs : List Value) (q : Nat) : Nat → List Value
  | 0 => []
  | n + 1 => outV vs q n ++ if n = q then [] else [vAt vs n]
theorem ValsAt.at {w : World} {B : Nat} {fs : List (List Int)} {vs : List Value} (h : ValsAt w B fs vs) {j : Nat} (hj : j < fs.length) : ∃ A c, vAt vs j = .slice A (fs[j]?.getD []).length c ∧ (fs[j]?.getD []).length ≤ c ∧ IntsAt w B A (fs[j]?.getD []).length (fs[j]?.getD []) := by
  obtain ⟨A, c, h1, h2, h3⟩ := h.2 j hj
  exact ⟨A, c, by unfold vAt; rw [h1]; rfl, h2, h3⟩
theorem ValsAt.one {w : World} {B : Nat} {fs : List (List Int)} {vs : List Value} (h : ValsAt w B fs vs) {j : Nat} (hj : j < fs.length) : ([vAt vs j].all fun u => oneCell u) = true := by
  obtain ⟨A, c, h1, -⟩ := h.at hj
  rw [h1]
  rfl
theorem row_blk {T : TypeId} {k n c : Nat} {A : Option Addr} {vs : List Value} {ob : List KB} (hr : RowV T k (.slice A n c) n vs ob) (hn : 0 < n) : ∃ g cur, A = some ⟨g, 0, none⟩ ∧ ob = [⟨g, .cells cur T (0, 0)⟩] := by
  rcases hr.2 with ⟨-, h9, -⟩ | ⟨g, cap, cur, e1, e2, -⟩
  · omega
  · cases e1
    exact ⟨g, cur, rfl, e2⟩
theorem ints_at_row {A : Option Addr} {n c : Nat} {xs : List Int} {ob : List KB} (hr : RowV 3 1 (.slice A n c) n (ints xs) ob) (hn : n ≤ 1000) : n ≤ c ∧ ∀ w : World, (∀ kb ∈ ob, w.heap[kb.id]? = some kb.obj) → IntsAt w w.heap.size A n xs := by
  rcases hr.2 with ⟨e1, e2, e3⟩ | ⟨g, cap, cur, e1, e2, e3, e4⟩
  · cases e1
    subst e3
    have hl := hr.1
    simp only [ints, List.length_map, Nat.mul_one] at hl
    exact ⟨Nat.le_refl _, fun w _ => ⟨by omega, by omega, fun h0 => absurd h0 (Nat.lt_irrefl 0)⟩⟩
  · cases e1
    subst e2
    exact ⟨e3, fun w hk => (row_ints2 hr (hk _ List.mem_cons_self) hn).1⟩
def stF (ps : List (Int × Int)) (s : Int × Int) (j : Nat) : Bool := (ps.take j).any fun x => decide (x = s)
end Go.Proofs.YtbahiemjaomdcaaGreat

/- quinellaref03: DividendsOf, Dividends, AccountOf, Account, Pay. -/
namespace Go.Proofs.YtbahiemjaomdcaaGreat
open Go.RowKit Go.Shelf

theorem FinAt.more {w : World} {B C : Nat} {A : Option Addr} {n : Nat} {fs : List (List Int)} (h : FinAt w B A n fs) (hBC : B ≤ C) : FinAt w C A n fs := ⟨h.1, h.2.1, fun h0 => by
  obtain ⟨b, off, e, hb, hc⟩ := h.2.2 h0
  exact ⟨b, off, e, Nat.lt_of_lt_of_le hb hBC, fun j hj => let ⟨A', c', h1, h2, h3⟩ := hc j hj; ⟨A', c', h1, h2, h3.more hBC⟩⟩⟩
def dvP (b : Bk) (fs : List (List Int)) (i : Nat) : List ((Int × Int) × Int) := (bkN' b fs i).map fun s => (s, dvF (tilF b) fs s)
theorem dvP_len (b : Bk) (fs : List (List Int)) (i : Nat) : (dvP b fs i).length = (bkN' b fs i).length := by unfold dvP; rw [List.length_map]
theorem dvP_all {b : Bk} {fs : List (List Int)} {i : Nat} (h : (winF b fs).length ≤ i) : dvP b fs i = dvL b fs := by unfold dvP dvL; rw [bkN_all h]
theorem encD_app (xs ys : List ((Int × Int) × Int)) : encD (xs ++ ys) = encD xs ++ encD ys := by unfold encD; exact List.flatMap_append
theorem At.baseR {w0 w1 w : World} {kn rows : List KB} {sz : Nat} (h : At w1 w kn rows sz) (hb : Below w0.heap.size w0 w1) : At w0 w [] rows sz :=
  ⟨by simp, h.rok, by simp, fun kb hk => Nat.le_trans hb.size (h.rlow kb hk), by
    have := h.nd
    rw [List.map_append, List.nodup_append] at this
    rw [List.append_nil]
    exact this.1, h.size, hb.trans (h.below.mono hb.size)⟩
theorem shR_in {b : Bk} {fs : List (List Int)} {s : Int × Int} (hs : s ∈ bkd (tilF b) fs) : shR b fs = shF (tilF b) fs := if_neg fun e => by rw [e] at hs; cases hs
theorem quo_few {x y : Int} (hx : 0 ≤ x ∧ x ≤ 20000000) (hy : 0 < y) : (0 ≤ x.tdiv y ∧ x.tdiv y ≤ 20000000) ∧ x.tdiv y = x / y := by
  have e := Int.tdiv_eq_ediv_of_nonneg (b := y) hx.1
  have h1 := Int.ediv_nonneg hx.1 (Int.le_of_lt hy)
  have h2 := Int.ediv_le_self y hx.1
  rw [e]
  exact ⟨⟨h1, by omega⟩, rfl⟩
theorem dv_steps {b : Bk} {fs : List (List Int)} (V : ValidB b) {s : Int × Int} (hs : s ∈ bkd (tilF b) fs) : ((shF (tilF b) fs).tdiv (uL (tilF b) b.bets s)).tdiv b.stp * b.stp = dvF (tilF b) fs s ∧ (0 ≤ (shF (tilF b) fs).tdiv (uL (tilF b) b.bets s) ∧ (shF (tilF b) fs).tdiv (uL (tilF b) b.bets s) ≤ 20000000) ∧ (0 ≤ ((shF (tilF b) fs).tdiv (uL (tilF b) b.bets s)).tdiv b.stp ∧ ((shF (tilF b) fs).tdiv (uL (tilF b) b.bets s)).tdiv b.stp ≤ 20000000) := by
  obtain ⟨h1, h2, h3, h4, h5⟩ := dv_facts V hs
  have hst := V.stp
  have hsf := sh_few V fs
  have q1 := quo_few hsf h1
  have q2 := quo_few q1.1 (show 0 < b.stp by omega)
  refine ⟨?_, q1.1, q2.1⟩
  rw [q2.2, q1.2, h5, Int.ediv_ediv, if_neg (fun h => by have := h.1; omega), Int.sub_zero]
set_option maxHeartbeats 2000000 in
set_option maxRecDepth 20000 in
theorem rDivOf_any (w : World) (B : Nat) (b : Bk) (A : Option Addr) (n c : Nat) (A2 : Option Addr) (m c2 : Nat) (A3 : Option Addr) (nf cf : Nat) (fs : List (List Int)) (h : BkAt w B b A n c A2 m c2) (hf : FinAt w B A3 nf fs) (hB : B ≤ w.heap.size) (V : ValidB b) (hfin : isFinF b fs = true) : Calls Tryz.prog 39 #[bkV b A n c A2 m c2, .slice A3 nf cf] w fun e w' => ∃ A9 c9, e = .returned (.slice A9 (dvL b fs).length c9) ∧ Below w.heap.size w w' ∧ w'.ownsRow w.heap.size 59 3 (.slice A9 (dvL b fs).length c9) (dvL b fs).length (encD (dvL b fs)) := by
  have hwf := (fin_ok V hfin).ws
  have hvs := V.stp
  have hsf := sh_few V fs
  have hq9 : ∃ WN, WN = (winF b fs).length := ⟨_, rfl⟩
  obtain ⟨WN, hWN⟩ := hq9
  refine enter 54 Tryz.func39 (by kernel_rfl) fun hA => ?_
  refine runS hA 15 (List.replicate 8 (.k 0)) xn on (by kernel_rfl) fun w1 hA => ?_
  have hApw := hA.atK [⟨w.heap.size, .cells #[.int .i64 b.kind, .int .i64 b.runners, .slice A n c, .slice A2 m c2, .bool b.fav, .int .i64 b.car, .int .i64 b.dut, .int .i64 b.stp] 25 (0, 0)⟩] (by kernel_rfl)
  refine call hA [] on (winnersOfS_any w1 B b A n c A2 m c2 A3 nf cf fs WN (hf.below hA.below hB) (Nat.le_trans hB hA.size) V hfin hWN.symm) (by kernel_rfl) (by rintro e v ⟨Aw, cw, rfl, hbw, how⟩; exact hbw) ?_
  rintro e w2 ⟨Aw, cw, rfl, hbw, how⟩
  refine ⟨_, rfl, fun hA => ?_⟩
  have hq9 := At.own hApw hbw how
  obtain ⟨ob8w, hrw, hA2w⟩ := hq9
  have hRw := row_at hrw (by omega) _ (fun kb hk => hA2w.rok kb (List.mem_append_left _ hk))
  refine reknow ⟨[⟨w.heap.size, .cells #[.int .i64 b.kind, .int .i64 b.runners, .slice A n c, .slice A2 m c2, .bool b.fav, .int .i64 b.car, .int .i64 b.dut, .int .i64 b.stp] 25 (0, 0)⟩], w2.heap.size, [], [], [], [], []⟩ hA2w (Nat.zero_le _) fun hA => ?_
  have hx1 : BkAt w2 w2.heap.size b A n c A2 m c2 := (h.below hA.below hB).more (Nat.le_trans hB hA.size)
  have hf1 : FinAt w2 w2.heap.size A3 nf fs := (hf.below hA.below hB).more (Nat.le_trans hB hA.size)
  have hK0 := hA.atK [⟨w.heap.size, .cells #[.int .i64 b.kind, .int .i64 b.runners, .slice A n c, .slice A2 m c2, .bool b.fav, .int .i64 b.car, .int .i64 b.dut, .int .i64 b.stp] 25 (0, 0)⟩] (by kernel_rfl)
  have hobb := hK0.ok ⟨w.heap.size, .cells #[.int .i64 b.kind, .int .i64 b.runners, .slice A n c, .slice A2 m c2, .bool b.fav, .int .i64 b.car, .int .i64 b.dut, .int .i64 b.stp] 25 (0, 0)⟩ (List.mem_of_getElem? (i := 0) (by kernel_rfl))
  have hcb0 := cell_lt (cell_of_obj (a := ⟨w.heap.size, 0, none⟩) hobb rfl rfl)
  have hcb1 := cell_lt (cell_of_obj (a := ⟨w.heap.size, 1, none⟩) hobb rfl rfl)
  have hcb2 := cell_lt (cell_of_obj (a := ⟨w.heap.size, 2, none⟩) hobb rfl rfl)
  have hcb3 := cell_lt (cell_of_obj (a := ⟨w.heap.size, 3, none⟩) hobb rfl rfl)
  have hcb4 := cell_lt (cell_of_obj (a := ⟨w.heap.size, 4, none⟩) hobb rfl rfl)
  have hcb5 := cell_lt (cell_of_obj (a := ⟨w.heap.size, 5, none⟩) hobb rfl rfl)
  have hcb6 := cell_lt (cell_of_obj (a := ⟨w.heap.size, 6, none⟩) hobb rfl rfl)
  have hcb7 := cell_lt (cell_of_obj (a := ⟨w.heap.size, 7, none⟩) hobb rfl rfl)
  have hWb := hA.below
  have hWs := hA.size
  refine rebase hA w2 (by kernel_rfl) (At.start _) fun hA => ?_
  refine runS hA 7 [.x (.int .i64 b.kind), .x (.int .i64 b.runners), .x (.slice A n c), .x (.slice A2 m c2), .x (.bool b.fav), .x (.int .i64 b.car), .x (.int .i64 b.dut), .x (.int .i64 b.stp)] (xc (a := ⟨w.heap.size, 0, none⟩) hcb0 (xc (a := ⟨w.heap.size, 1, none⟩) hcb1 (xc (a := ⟨w.heap.size, 2, none⟩) hcb2 (xc (a := ⟨w.heap.size, 3, none⟩) hcb3 (xc (a := ⟨w.heap.size, 4, none⟩) hcb4 (xc (a := ⟨w.heap.size, 5, none⟩) hcb5 (xc (a := ⟨w.heap.size, 6, none⟩) hcb6 (xc (a := ⟨w.heap.size, 7, none⟩) hcb7 xn)))))))) on (by kernel_rfl) fun w3 hA => ?_
  refine callB hA [] on (rShare_any w3 w2.heap.size b A n c A2 m c2 A3 nf cf fs (hx1.below hA.below (Nat.le_refl _)) (hf1.below hA.below (Nat.le_refl _)) hA.size V hfin) (by kernel_rfl) fun w4 hb4 hA => ?_
  refine runS hA 10 [] xn on (by kernel_rfl) fun w5 hA => ?_
  have hr0 : RowV 59 3 (.slice none (dvP b fs 0).length 0) (dvP b fs 0).length (encD (dvP b fs 0)) [] := RowV.nil _ _
  refine loop (γ := Nat × Option Addr × Nat × List KB) (fun ⟨i, Av, cv, ov⟩ => [(2, .pointer (some ⟨w.heap.size, 0, none⟩)), (4, .slice none 0 0), (5, .slice Av ((dvP b fs i).length) cv), (6, .slice Aw WN cw), (7, .int .i64 (shR b fs)), (8, .int .i64 (i : Int))]) (fun ⟨i, Av, cv, ov⟩ => []) (fun ⟨i, Av, cv, ov⟩ => ov ++ ([])) (fun g ⟨i, Av, cv, ov⟩ wr => (i ≤ WN ∧ g = WN - i) ∧ RowV 59 3 (.slice Av (dvP b fs i).length cv) (dvP b fs i).length (encD (dvP b fs i)) ov) WN ⟨0, none, 0, []⟩ [] hA (by kernel_rfl) (⟨⟨Nat.zero_le _, rfl⟩, hr0⟩) ?_
  rintro _ ⟨i, Av, cv, ov⟩ wr ⟨⟨hi, rfl⟩, hrq⟩ J hJ hA
  have hbn := bkN_le b fs i
  have hdn := dvP_len b fs i
  by_cases hlt : i < WN
  case neg =>
    refine runS hA 12 [.b false] xn (oc (dec_f (show ¬ (((i : Int) : Int) < (WN : Int)) by omega)) on) (by kernel_rfl) fun w6 hA => ?_
    refine leave hA (by kernel_rfl) fun hA => ?_
    refine runS hA 9 [] xn on (by kernel_rfl) fun w7 hA => ?_
    have hdl : (dvP b fs i) = dvL b fs := dvP_all (by omega)
    have hBk : At w w7 [] (ov ++ []) w7.heap.size := ((hA.atK [] (by kernel_rfl)).resize.baseR hWb)
    refine back hA (kn' := []) (by kernel_rfl) hBk fun hA => ?_
    have hrf : RowV 59 3 (.slice Av (dvP b fs i).length cv) (dvL b fs).length (encD (dvL b fs)) ov := by rw [← hdl]; exact hrq
    have hAf := hA.atK [] (by kernel_rfl)
    exact ret (v := .slice Av ((dvP b fs i).length) cv) hA [] (by kernel_rfl) ⟨Av, cv, by rw [hdl], hA.below, by have h9 := hrf.own hAf; rw [hdl] at h9; exact h9⟩
  case pos =>
    have hst := bkN_step (b := b) (fs := fs) (i := i) (by omega)
    have hub := uL_bound (tilF b) ((winF b fs)[i]?.getD (0, 0)) b.bets (units_ok V)
    have hq9 := hRw.2.2 (by omega)
    obtain ⟨bw, ow, rfl, hbw1, hcw⟩ := hq9
    have hq9 := encW_get (winF b fs) i (by omega)
    obtain ⟨ge0, ge1⟩ := hq9
    have e0 : bw < w2.heap.size ∧ w2.cell? ⟨bw, ow + i * 2, none⟩ = some (.int .i64 ((winF b fs)[i]?.getD (0, 0)).1) := ⟨hbw1, by have := hcw _ _ ge0; exact this⟩
    have e1 : bw < w2.heap.size ∧ w2.cell? ⟨bw, ow + i * 2 + 1, none⟩ = some (.int .i64 ((winF b fs)[i]?.getD (0, 0)).2) := ⟨hbw1, by have := hcw _ _ ge1; exact this⟩
    refine runS hA 15 [.b true] xn (oc (dec_t (show (((i : Int) : Int) < (WN : Int)) by omega)) on) (by kernel_rfl) fun w6 hA => ?_
    refine draw hA [] [0, 1, 2, 3, 4, 5, 6] (by kernel_rfl) (by kernel_rfl) fun hA => ?_
    refine runS hA 5 [.t 0, .x (.int .i64 b.kind), .x (.int .i64 b.runners), .x (.slice A n c), .x (.slice A2 m c2), .x (.bool b.fav), .x (.int .i64 b.car), .x (.int .i64 b.dut), .x (.int .i64 b.stp), .t 1, .t 2, .t 3, .i, .t 4, .x (.int .i64 (((winF b fs)[i]?.getD (0, 0)).1)), .x (.int .i64 (((winF b fs)[i]?.getD (0, 0)).2))] (xc (a := ⟨w.heap.size, 0, none⟩) hcb0 (xc (a := ⟨w.heap.size, 1, none⟩) hcb1 (xc (a := ⟨w.heap.size, 2, none⟩) hcb2 (xc (a := ⟨w.heap.size, 3, none⟩) hcb3 (xc (a := ⟨w.heap.size, 4, none⟩) hcb4 (xc (a := ⟨w.heap.size, 5, none⟩) hcb5 (xc (a := ⟨w.heap.size, 6, none⟩) hcb6 (xc (a := ⟨w.heap.size, 7, none⟩) hcb7 (xc (a := ⟨bw, ow + i * 2, none⟩) e0 (xc (a := ⟨bw, ow + i * 2 + 1, none⟩) e1 xn)))))))))) (oc (show (0 : Int) ≤ ((i : Int) : Int) ∧ ((i : Int) : Int) < (WN : Int) by omega) on) (by kernel_rfl) fun w7 hA => ?_
    refine callB hA [] on (rUnits_any w7 w2.heap.size b A n c A2 m c2 ((winF b fs)[i]?.getD (0, 0)) (hx1.below hA.below (Nat.le_refl _)) hA.size V) (by kernel_rfl) fun w8 hb8 hA => ?_
    refine runS hA 7 [.t 6, .b true] xn on (by kernel_rfl) fun w9 hA => ?_
    by_cases hu : (uL (tilF b) b.bets ((winF b fs)[i]?.getD (0, 0))) > 0
    case neg =>
      refine revals hA (rc 29 (dec_f hu) rn) (by kernel_rfl) fun hA => ?_
      refine runS hA 11 [] xn on (by kernel_rfl) fun w10 hA => ?_
      rw [if_neg (by omega), List.append_nil] at hst
      have hsd : (dvP b fs (i + 1)) = (dvP b fs i) := by unfold dvP; rw [hst]
      refine revals hA (rc 5 (show .slice Av ((dvP b fs i).length) cv = .slice Av ((dvP b fs (i + 1)).length) cv by rw [hsd]) (rc 8 (wr64 (x := (i : Int) + 1) (y := ((i + 1 : Nat) : Int)) (by omega) (by omega)) rn)) (by kernel_rfl) fun hA => ?_
      exact again hJ (WN - (i + 1)) (⟨i + 1, Av, cv, ov⟩) [] hA (by omega) (by kernel_rfl) (⟨⟨by omega, rfl⟩, by rw [hsd]; exact hrq⟩)
    case pos =>
      refine revals hA (rc 29 (dec_t hu) rn) (by kernel_rfl) fun hA => ?_
      refine runS hA 3 [] xn on (by kernel_rfl) fun w10 hA => ?_
      rw [if_pos (by omega)] at hst
      have hmem : ((winF b fs)[i]?.getD (0, 0)) ∈ bkd (tilF b) fs := bkd_mem.2 ⟨get_mem (show i < (winF b fs).length by omega), by show (uL (tilF b) b.bets ((winF b fs)[i]?.getD (0, 0))) ≠ 0; omega⟩
      have hds := dv_steps V hmem
      have hda := dv_all V hmem
      have hsd : (dvP b fs (i + 1)) = (dvP b fs i) ++ [(((winF b fs)[i]?.getD (0, 0)), (dvF (tilF b) fs ((winF b fs)[i]?.getD (0, 0))))] := by unfold dvP; rw [hst, List.map_append]; rfl
      refine draw hA [] [0, 1, 2, 3, 4, 5, 6, 7, 8, 9, 10, 11, 12, 13, 14, 15, 16, 17, 18, 19, 20, 21] (by kernel_rfl) (by kernel_rfl) fun hA => ?_
      refine runS hA 12 [.t 0, .t 1, .t 2, .t 3, .i, .t 4, .t 5, .x (.int .i64 (((winF b fs)[i]?.getD (0, 0)).1)), .t 6, .t 7, .t 8, .i, .t 9, .t 10, .x (.int .i64 (((winF b fs)[i]?.getD (0, 0)).2)), .t 11] (xc (a := ⟨bw, ow + i * 2, none⟩) e0 (xc (a := ⟨bw, ow + i * 2 + 1, none⟩) e1 xn)) (oc (show (0 : Int) ≤ ((i : Int) : Int) ∧ ((i : Int) : Int) < (WN : Int) by omega) (oc (show (0 : Int) ≤ ((i : Int) : Int) ∧ ((i : Int) : Int) < (WN : Int) by omega) on)) (by kernel_rfl) fun w11 hA => ?_
      refine revals hA (rc 41 (show .int .i64 (shR b fs) = .int .i64 (shF (tilF b) fs) by rw [shR_in hmem]) rn) (by kernel_rfl) fun hA => ?_
      refine runS hA 2 [.t 12, .t 13, .z] xn (oc (show (uL (tilF b) b.bets ((winF b fs)[i]?.getD (0, 0))) ≠ (0 : Int) by omega) on) (by kernel_rfl) fun w12 hA => ?_
      refine revals hA (rc 43 (show .int .i64 (IntKind.i64.wrap ((shF (tilF b) fs).tdiv (uL (tilF b) b.bets ((winF b fs)[i]?.getD (0, 0))))) = .int .i64 ((shF (tilF b) fs).tdiv (uL (tilF b) b.bets ((winF b fs)[i]?.getD (0, 0)))) by rw [IntKind.wrap_i64]; congr 1; omega) rn) (by kernel_rfl) fun hA => ?_
      refine runS hA 3 [.t 14, .t 15, .x (.int .i64 b.stp), .t 16, .z] (xc (a := ⟨w.heap.size, 7, none⟩) hcb7 xn) (oc (show b.stp ≠ (0 : Int) by omega) on) (by kernel_rfl) fun w13 hA => ?_
      refine revals hA (rc 46 (show .int .i64 (IntKind.i64.wrap (((shF (tilF b) fs).tdiv (uL (tilF b) b.bets ((winF b fs)[i]?.getD (0, 0)))).tdiv b.stp)) = .int .i64 (((shF (tilF b) fs).tdiv (uL (tilF b) b.bets ((winF b fs)[i]?.getD (0, 0)))).tdiv b.stp) by rw [IntKind.wrap_i64]; congr 1; omega) rn) (by kernel_rfl) fun hA => ?_
      refine runS hA 3 [.t 17, .t 18, .x (.int .i64 b.stp), .t 19] (xc (a := ⟨w.heap.size, 7, none⟩) hcb7 xn) on (by kernel_rfl) fun w14 hA => ?_
      refine revals hA (rc 49 (show .int .i64 (IntKind.i64.wrap ((((shF (tilF b) fs).tdiv (uL (tilF b) b.bets ((winF b fs)[i]?.getD (0, 0)))).tdiv b.stp) * b.stp)) = .int .i64 (dvF (tilF b) fs ((winF b fs)[i]?.getD (0, 0))) by rw [hds.1, IntKind.wrap_i64]; congr 1; omega) rn) (by kernel_rfl) fun hA => ?_
      refine runS hA 3 [.t 20, .h 21, .b false] xn on (by kernel_rfl) fun w15 hA => ?_
      have hob := hA.at_.ok ⟨w8.heap.size, .cells #[.int .i64 (((winF b fs)[i]?.getD (0, 0)).1), .int .i64 (((winF b fs)[i]?.getD (0, 0)).2), .int .i64 (dvF (tilF b) fs ((winF b fs)[i]?.getD (0, 0)))] 59 (0, 0)⟩ (List.mem_of_getElem? (i := 0) (by kernel_rfl))
      have hy0 := cell_of_obj (a := ⟨w8.heap.size, 0, none⟩) hob rfl rfl
      have hy1 := cell_of_obj (a := ⟨w8.heap.size, 1, none⟩) hob rfl rfl
      have hy2 := cell_of_obj (a := ⟨w8.heap.size, 2, none⟩) hob rfl rfl
      refine appES (t := 30) (e := 59) (ty := 30) (z := .agg #[.int .i64 0, .int .i64 0, .int .i64 0]) (size := 3) (bytes := 24) (v := .slice Av (dvP b fs i).length cv) (n := (dvP b fs i).length) (m := 1) (cp := 1) (A := some ⟨w8.heap.size, 0, none⟩) (encD [(((winF b fs)[i]?.getD (0, 0)), (dvF (tilF b) fs ((winF b fs)[i]?.getD (0, 0))))]) hA hrq (by kernel_rfl) rfl (fun _ => ⟨_, rfl, fun p u hu => by match p, hu with | 0, hu => cases hu; exact hy0 | 1, hu => cases hu; exact hy1 | 2, hu => cases hu; exact hy2⟩) rfl (by omega) (by omega) (by omega) fun g2 c2' w16 ob2q hr2q hA => ?_
      have hle : (dvP b fs (i + 1)).length = (dvP b fs i).length + 1 := by rw [hsd, List.length_append]; rfl
      refine runS hA 9 [] xn on (by kernel_rfl) fun w17 hA => ?_
      have hrk2 : RowV 59 3 (.slice (some ⟨g2, 0, none⟩) (dvP b fs (i + 1)).length c2') (dvP b fs (i + 1)).length (encD (dvP b fs (i + 1))) ob2q := by rw [hle, hsd, encD_app]; exact hr2q
      refine revals hA (rc 5 (show .slice (some ⟨g2, 0, none⟩) ((dvP b fs i).length + 1) c2' = .slice (some ⟨g2, 0, none⟩) ((dvP b fs (i + 1)).length) c2' by rw [hle]) (rc 8 (wr64 (x := (i : Int) + 1) (y := ((i + 1 : Nat) : Int)) (by omega) (by omega)) rn)) (by kernel_rfl) fun hA => ?_
      exact again hJ (WN - (i + 1)) (⟨i + 1, some ⟨g2, 0, none⟩, c2', ob2q⟩) [false] hA (by omega) (by kernel_rfl) (⟨⟨by omega, rfl⟩, hrk2⟩)
end Go.Proofs.YtbahiemjaomdcaaGreat

/- quinellaref03: Dividends, AccountOf, Account, Pay. -/
namespace Go.Proofs.YtbahiemjaomdcaaGreat
open Go.RowKit Go.Shelf

theorem at_both {b : Bk} {fs : List (List Int)} (h : atF b fs = 0) : bookF b = 0 ∧ isFinF b fs = true := by
  unfold atF at h
  split at h
  · rename_i h1
    split at h
    · rename_i h2; exact ⟨h1, h2⟩
    · cases h
  · rename_i h1; exact absurd h h1
/-- The cells of a row of dividends. -/
theorem div_cells {g n c : Nat} {ds : List ((Int × Int) × Int)} {cur : Array Value} (hr : RowV 59 3 (.slice (some ⟨g, 0, none⟩) n c) n (encD ds) [⟨g, .cells cur 59 (0, 0)⟩]) {i : Nat} (hi : i < n) (hl : ds.length = n) : cur[0 + i * 3]? = some (.int .i64 (ds[i]?.getD ((0, 0), 0)).1.1) ∧ cur[0 + i * 3 + 1]? = some (.int .i64 (ds[i]?.getD ((0, 0), 0)).1.2) ∧ cur[0 + i * 3 + 2]? = some (.int .i64 (ds[i]?.getD ((0, 0), 0)).2) := by
  obtain ⟨h1, h2, h3⟩ := encD_get ds i (by omega)
  rcases hr.2 with ⟨h9, -, -⟩ | ⟨g', cap, cur', e1, e2, h4, h5, h6, h7⟩
  · cases h9
  · cases e1
    cases e2
    have get : ∀ q, q < n * 3 → cur[q]? = (encD ds)[q]? := fun q hq => by rw [← h7, List.getElem?_take_of_lt hq, Array.getElem?_toList]
    rw [Nat.zero_add]
    exact ⟨(get _ (by omega)).trans h1, (get _ (by omega)).trans h2, (get _ (by omega)).trans h3⟩
def pdM (b : Bk) (fs : List (List Int)) (i : Nat) : Int := (((dvL b fs).take i).map fun d => d.2 * uL (tilF b) b.bets d.1).sum
theorem pdM_step {b : Bk} {fs : List (List Int)} {i : Nat} (h : i < (dvL b fs).length) : pdM b fs (i + 1) = pdM b fs i + ((dvL b fs)[i]?.getD ((0, 0), 0)).2 * uL (tilF b) b.bets ((dvL b fs)[i]?.getD ((0, 0), 0)).1 := by
  unfold pdM
  rw [take_snoc (d := ((0, 0), 0)) h, List.map_append, List.sum_append]
  simp
theorem pdM_all {b : Bk} {fs : List (List Int)} {i : Nat} (h : (dvL b fs).length ≤ i) : pdM b fs i = pdF (tilF b) fs := by
  unfold pdM pdF
  rw [List.take_of_length_le h]
  unfold dvL
  rw [List.map_map]
  rfl
set_option maxHeartbeats 1000000 in
set_option maxRecDepth 20000 in
theorem rAccountOf_any (w : World) (B : Nat) (b : Bk) (A : Option Addr) (n c : Nat) (A2 : Option Addr) (m c2 : Nat) (A3 : Option Addr) (nf cf : Nat) (fs : List (List Int)) (h : BkAt w B b A n c A2 m c2) (hf : FinAt w B A3 nf fs) (hB : B ≤ w.heap.size) (hk : bookF b = 0) (hfi : isFinF b fs = true) : Calls Tryz.prog 41 #[bkV b A n c A2 m c2, .slice A3 nf cf] w fun e w' => e = .returned (.agg (accC (AccountF b fs))) ∧ Below w.heap.size w w' := by
  have h0 : atF b fs = 0 := by unfold atF; rw [if_pos hk, if_pos hfi]
  have hq9 := at_both h0
  obtain ⟨hk0, hfin⟩ := hq9
  have V := valid_of hk0
  have hq9 : ∃ LN, LN = (dvL b fs).length := ⟨_, rfl⟩
  obtain ⟨LN, hLN⟩ := hq9
  have hL9 : LN ≤ 1000 := by rw [hLN]; exact dvL_len2 hk0 hfin
  have hLb : LN = (bkd (tilF b) fs).length := by rw [hLN, dvL_len]
  have hnf := net_facts V
  have hpf := pd_facts (fs := fs) V
  have hac := acc_eq hk0 hfin
  refine enter 54 Tryz.func41 (by kernel_rfl) fun hA => ?_
  refine runS hA 9 (List.replicate 8 (.k 0)) xn on (by kernel_rfl) fun w1 hA => ?_
  refine callB hA [] on (rNet_any w1 B b A n c A2 m c2 (h.below hA.below hB) (Nat.le_trans hB hA.size) V) (by kernel_rfl) fun w2 hb2 hA => ?_
  refine runS hA 8 (List.replicate 6 (.k 2) ++ List.replicate 8 (.k 0)) xn on (by kernel_rfl) fun w3 hA => ?_
  have hApl := hA.atK [⟨w.heap.size, .cells #[.int .i64 b.kind, .int .i64 b.runners, .slice A n c, .slice A2 m c2, .bool b.fav, .int .i64 b.car, .int .i64 b.dut, .int .i64 b.stp] 25 (0, 0)⟩, ⟨w.heap.size + 1, .cells #[.int .i64 0, .int .i64 0, .int .i64 0, .int .i64 0, .int .i64 0, .int .i64 0] 35 (0, 0)⟩, ⟨w2.heap.size, .cells #[.int .i64 ((netA b).inn), .int .i64 ((netA b).back), .int .i64 ((netA b).duty), .int .i64 ((netA b).paid), .int .i64 ((netA b).kept), .int .i64 ((netA b).over)] 35 (0, 0)⟩] (by kernel_rfl)
  have hP := rDivOf_any w3 B b A n c A2 m c2 A3 nf cf fs (h.below hA.below hB) (hf.below hA.below hB) (Nat.le_trans hB hA.size) V hfin
  rw [← hLN] at hP
  refine call hA [] on (hP) (by kernel_rfl) (by rintro e v ⟨Al, cl, rfl, hbl, hol⟩; exact hbl) ?_
  rintro e w4 ⟨Al, cl, rfl, hbl, hol⟩
  refine ⟨_, rfl, fun hA => ?_⟩
  have hq9 := At.own hApl hbl hol
  obtain ⟨ob8l, hrl, hA2l⟩ := hq9
  refine reknow ⟨[⟨w.heap.size, .cells #[.int .i64 b.kind, .int .i64 b.runners, .slice A n c, .slice A2 m c2, .bool b.fav, .int .i64 b.car, .int .i64 b.dut, .int .i64 b.stp] 25 (0, 0)⟩, ⟨w.heap.size + 1, .cells #[.int .i64 0, .int .i64 0, .int .i64 0, .int .i64 0, .int .i64 0, .int .i64 0] 35 (0, 0)⟩, ⟨w2.heap.size, .cells #[.int .i64 ((netA b).inn), .int .i64 ((netA b).back), .int .i64 ((netA b).duty), .int .i64 ((netA b).paid), .int .i64 ((netA b).kept), .int .i64 ((netA b).over)] 35 (0, 0)⟩], w4.heap.size, [], [], [], [], []⟩ hA2l (Nat.zero_le _) fun hA => ?_
  refine runS hA 9 [] xn on (by kernel_rfl) fun w5 hA => ?_
  by_cases hb : bkd (tilF b) fs = []
  case pos =>
    have hl0 : LN = 0 := by rw [hLb, hb]; rfl
    refine revals hA (rc 15 (eq_t (a := (LN : Int)) (b := 0) (by omega)) rn) (by kernel_rfl) fun hA => ?_
    refine runS hA 11 (List.replicate 6 (.k 2) ++ List.replicate 6 (.k 1)) xn on (by kernel_rfl) fun w6 hA => ?_
    exact ret (v := .agg #[.int .i64 ((netA b).inn), .int .i64 ((netA b).back), .int .i64 ((netA b).duty), .int .i64 ((netA b).paid), .int .i64 ((netA b).kept), .int .i64 ((netA b).over)]) hA (List.replicate 6 (.k 1)) (by kernel_rfl) ⟨by rw [hac, if_pos hb]; rfl, hA.below⟩
  case neg =>
    have hl0 : 0 < LN := by rw [hLb]; exact List.length_pos_iff.2 hb
    refine revals hA (rc 15 (eq_f (a := (LN : Int)) (b := 0) (by omega)) rn) (by kernel_rfl) fun hA => ?_
    refine runS hA 12 [] xn on (by kernel_rfl) fun w6 hA => ?_
    have hq9 := row_blk hrl (by omega)
    obtain ⟨gg, cug, rfl, rfl⟩ := hq9
    have hA3 := (hA.atK [⟨w.heap.size, .cells #[.int .i64 b.kind, .int .i64 b.runners, .slice A n c, .slice A2 m c2, .bool b.fav, .int .i64 b.car, .int .i64 b.dut, .int .i64 b.stp] 25 (0, 0)⟩, ⟨w.heap.size + 1, .cells #[.int .i64 0, .int .i64 0, .int .i64 0, .int .i64 0, .int .i64 0, .int .i64 0] 35 (0, 0)⟩, ⟨w2.heap.size, .cells #[.int .i64 ((netA b).inn), .int .i64 ((netA b).back), .int .i64 ((netA b).duty), .int .i64 ((netA b).paid), .int .i64 ((netA b).kept), .int .i64 ((netA b).over)] 35 (0, 0)⟩] (by kernel_rfl)).resize.up
    refine reknow ⟨[⟨w.heap.size, .cells #[.int .i64 b.kind, .int .i64 b.runners, .slice A n c, .slice A2 m c2, .bool b.fav, .int .i64 b.car, .int .i64 b.dut, .int .i64 b.stp] 25 (0, 0)⟩, ⟨w.heap.size + 1, .cells #[.int .i64 0, .int .i64 0, .int .i64 0, .int .i64 0, .int .i64 0, .int .i64 0] 35 (0, 0)⟩, ⟨w2.heap.size, .cells #[.int .i64 ((netA b).inn), .int .i64 ((netA b).back), .int .i64 ((netA b).duty), .int .i64 ((netA b).paid), .int .i64 ((netA b).kept), .int .i64 ((netA b).over)] 35 (0, 0)⟩, ⟨gg, .cells cug 59 (0, 0)⟩], w6.heap.size, [], [], [], [], []⟩ hA3 (Nat.zero_le _) fun hA => ?_
    refine loop (γ := Nat) (fun i => [(2, .pointer (some ⟨w.heap.size, 0, none⟩)), (4, .pointer (some ⟨w.heap.size + 1, 0, none⟩)), (5, .pointer (some ⟨w2.heap.size, 0, none⟩)), (6, .slice (some ⟨gg, 0, none⟩) LN cl), (7, .int .i64 (i : Int))]) (fun i => [⟨w.heap.size, .cells #[.int .i64 b.kind, .int .i64 b.runners, .slice A n c, .slice A2 m c2, .bool b.fav, .int .i64 b.car, .int .i64 b.dut, .int .i64 b.stp] 25 (0, 0)⟩, ⟨w.heap.size + 1, .cells #[.int .i64 0, .int .i64 0, .int .i64 0, .int .i64 0, .int .i64 0, .int .i64 0] 35 (0, 0)⟩, ⟨w2.heap.size, .cells #[.int .i64 ((netA b).inn), .int .i64 ((netA b).back), .int .i64 ((netA b).duty), .int .i64 (pdM b fs i), .int .i64 ((netA b).kept), .int .i64 ((netA b).over)] 35 (0, 0)⟩, ⟨gg, .cells cug 59 (0, 0)⟩]) (fun _ => []) (fun g i wr => (i ≤ LN ∧ g = LN - i) ∧ 0 ≤ (pdM b fs i) ∧ (pdM b fs i) ≤ 20000000 * (i : Int)) LN 0 [true, true, true, true] hA (by kernel_rfl) (⟨⟨Nat.zero_le _, rfl⟩, Int.le_refl 0, Int.le_refl 0⟩) ?_
    rintro _ i wr ⟨⟨hi, rfl⟩, hp1, hp2⟩ J hJ hA
    by_cases hlt : i < LN
    case neg =>
      have hpa : (pdM b fs i) = pdF (tilF b) fs := pdM_all (by omega)
      refine runS hA 12 [.b false] xn (oc (dec_f (show ¬ (((i : Int) : Int) < (LN : Int)) by omega)) on) (by kernel_rfl) fun w7 hA => ?_
      refine leave hA (by kernel_rfl) fun hA => ?_
      refine runS hA 9 [.k 2, .k 2] xn on (by kernel_rfl) fun w8 hA => ?_
      refine revals hA (rc 50 (show .int .i64 (IntKind.i64.wrap (((netA b).over) - (pdM b fs i))) = .int .i64 (netF (tilF b).a - pdF (tilF b) fs) by rw [hpa, show (netA b).over = netF (tilF b).a from rfl, IntKind.wrap_i64]; congr 1; omega) rn) (by kernel_rfl) fun hA => ?_
      refine runS hA 13 (List.replicate 8 (.k 2) ++ List.replicate 6 (.k 1)) xn on (by kernel_rfl) fun w9 hA => ?_
      exact ret (v := .agg #[.int .i64 ((netA b).inn), .int .i64 ((netA b).back), .int .i64 ((netA b).duty), .int .i64 (pdM b fs i), .int .i64 (netF (tilF b).a - pdF (tilF b) fs), .int .i64 0]) hA (List.replicate 6 (.k 1)) (by kernel_rfl) ⟨by rw [hac, if_neg hb, hpa]; rfl, hA.below⟩
    case pos =>
      have hdc := div_cells hrl (i := i) hlt hLN.symm
      have hst := pdM_step (b := b) (fs := fs) (i := i) (by omega)
      have hdg := dvL_get (b := b) (fs := fs) (i := i) (by omega)
      have hmem : ((dvL b fs)[i]?.getD ((0, 0), 0)).1 ∈ bkd (tilF b) fs := by rw [hdg]; exact get_mem (by omega)
      have hda := dv_all V hmem
      have hsf := sh_few V fs
      have hd2 : ((dvL b fs)[i]?.getD ((0, 0), 0)).2 = dvF (tilF b) fs ((dvL b fs)[i]?.getD ((0, 0), 0)).1 := by rw [hdg]
      rw [← hd2] at hda
      refine runS hA 14 [.b true] xn (oc (dec_t (show (((i : Int) : Int) < (LN : Int)) by omega)) on) (by kernel_rfl) fun w7 hA => ?_
      refine draw hA [true, true, true, true] [0, 1, 2, 3, 4, 5, 6, 7, 8, 9, 10, 11, 12, 13, 14, 15, 16, 17, 18, 19, 20, 21, 22] (by kernel_rfl) (by kernel_rfl) fun hA => ?_
      refine runS hA 19 ([.t 0, .t 1, .k 2, .t 2, .t 3, .t 4, .i, .t 5, .t 6, .y 3 (.int .i64 (((dvL b fs)[i]?.getD ((0, 0), 0)).2)), .t 7] ++ List.replicate 8 (.k 0) ++ [.t 8, .t 9, .t 10, .i, .t 11, .t 12, .y 3 (.int .i64 (((dvL b fs)[i]?.getD ((0, 0), 0)).1.1)), .t 13, .t 14, .t 15, .i, .t 16, .t 17, .y 3 (.int .i64 (((dvL b fs)[i]?.getD ((0, 0), 0)).1.2)), .t 18]) xn (oc (show (0 : Int) ≤ ((i : Int) : Int) ∧ ((i : Int) : Int) < (LN : Int) by omega) (oc (show cug[0 + i * 3 + 2]? = some (.int .i64 (((dvL b fs)[i]?.getD ((0, 0), 0)).2)) from hdc.2.2) (oc (show (0 : Int) ≤ ((i : Int) : Int) ∧ ((i : Int) : Int) < (LN : Int) by omega) (oc (show cug[0 + i * 3]? = some (.int .i64 (((dvL b fs)[i]?.getD ((0, 0), 0)).1.1)) from hdc.1) (oc (show (0 : Int) ≤ ((i : Int) : Int) ∧ ((i : Int) : Int) < (LN : Int) by omega) (oc (show cug[0 + i * 3 + 1]? = some (.int .i64 (((dvL b fs)[i]?.getD ((0, 0), 0)).1.2)) from hdc.2.1) on)))))) (by kernel_rfl) fun w8 hA => ?_
      refine callB hA [] on (rUnits_any w8 B b A n c A2 m c2 ((dvL b fs)[i]?.getD ((0, 0), 0)).1 (h.below hA.below hB) (Nat.le_trans hB hA.size) V) (by kernel_rfl) fun w9 hb9 hA => ?_
      refine runS hA 1 [.t 20] xn on (by kernel_rfl) fun w10 hA => ?_
      refine revals hA (rc 43 (show .int .i64 (IntKind.i64.wrap ((((dvL b fs)[i]?.getD ((0, 0), 0)).2) * (uL (tilF b) b.bets ((dvL b fs)[i]?.getD ((0, 0), 0)).1))) = .int .i64 (((dvL b fs)[i]?.getD ((0, 0), 0)).2 * (uL (tilF b) b.bets ((dvL b fs)[i]?.getD ((0, 0), 0)).1)) by rw [IntKind.wrap_i64]; congr 1; omega) rn) (by kernel_rfl) fun hA => ?_
      refine runS hA 1 [.t 21] xn on (by kernel_rfl) fun w11 hA => ?_
      refine revals hA (rc 44 (show .int .i64 (IntKind.i64.wrap ((pdM b fs i) + (((dvL b fs)[i]?.getD ((0, 0), 0)).2 * (uL (tilF b) b.bets ((dvL b fs)[i]?.getD ((0, 0), 0)).1)))) = .int .i64 (pdM b fs (i + 1)) by rw [hst, IntKind.wrap_i64]; congr 1; omega) rn) (by kernel_rfl) fun hA => ?_
      refine runS hA 11 [.t 22, .b false, .k 2] xn on (by kernel_rfl) fun w12 hA => ?_
      refine revals hA (rc 7 (wr64 (x := (i : Int) + 1) (y := ((i + 1 : Nat) : Int)) (by omega) (by omega)) rn) (by kernel_rfl) fun hA => ?_
      exact again hJ (LN - (i + 1)) (i + 1) [true, true, true, true] hA (by omega) (by kernel_rfl) (⟨⟨by omega, rfl⟩, by rw [hst]; omega, by rw [hst]; omega⟩)
end Go.Proofs.YtbahiemjaomdcaaGreat
