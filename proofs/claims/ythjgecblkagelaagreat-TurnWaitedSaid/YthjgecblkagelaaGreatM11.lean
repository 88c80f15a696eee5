/- Parts of a proof: AI AJ. -/
import Derived.Test.YthjgecblkagelaaGreatM10

/- Turn. -/
namespace Go.Proofs.YthjgecblkagelaaGreat
open Go.RowKit Go.Shelf

attribute [local go_sem] Oper.semAt_some

/-- A slice that reads as these ints. -/
def ListAt (w : World) (v : Value) (xs : List Int) : Prop := ∃ A m c, v = .slice A m c ∧ IntsAt w w.heap.size A m xs
theorem ListAt.nil (w : World) : ListAt w (.slice none 0 0) [] := ⟨none, 0, 0, rfl, IntsAt.nil⟩
theorem ListAt.of_row {w : World} {base : Nat} {e : TypeId} {v : Value} {xs : List Int} (h : w.ownsRow base e 1 v xs.length (xs.map (.int .i64))) (hm : xs.length ≤ 9223372036854775807) : ListAt w v xs := by
  obtain ⟨A, c, rfl, hle⟩ := ownsRow_slice h
  refine ⟨A, xs.length, c, rfl, rfl, hm, fun h0 => ?_⟩
  rcases h.2 with ⟨-, h1⟩ | ⟨g, cap, cur, he, hb, hg, -⟩
  · omega
  · cases he
    refine ⟨g, 0, rfl, (Array.getElem?_eq_some_iff.1 hg).1, fun j hj => ?_⟩
    have := h.cells (g := g) rfl j (.int .i64 (xs[j]?.getD 0)) (by simp [hj])
    have ha : (⟨g, 0, none⟩ : Addr).add j = ⟨g, j, none⟩ := by simp [Addr.add]; omega
    rw [ha] at this
    rw [Nat.zero_add]
    exact this
theorem ListAt.later {w w' : World} {v : Value} {xs : List Int} (h : ListAt w v xs) (hb : Below w.heap.size w w') : ListAt w' v xs := by
  obtain ⟨A, m, c, e, h⟩ := h
  exact ⟨A, m, c, e, (h.below hb (Nat.le_refl _)).more hb.size⟩
theorem ListRes.list {w w' : World} {r : List Int × Int} {e : Ending} (h : ListRes w r e w') (hm : r.1.length ≤ 9223372036854775807) : ∃ v, e = .returned (.tuple #[v, .int .i64 r.2]) ∧ ListAt w' v r.1 ∧ Below w.heap.size w w' := by
  obtain ⟨v, h1, h2, h3⟩ := h
  exact ⟨v, h1, ListAt.of_row h2 hm, h3⟩

def turnR (ts ss pulls : List Int) (visit : Int) : List Int × Int × Int :=
  if statedF ts ss ≠ 0 then ([], 0, statedF ts ss) else if withinF 0 ((ts.length : Int) - 1) pulls = false ∨ incrF pulls = false ∨ withinF 0 ((ts.length : Int) - 1) [visit] = false then ([], 0, 2)
  else match turnF ts (hasF pulls) (plOf ss) visit.toNat with | none => ([], 0, 17) | some (q, x) => (plList q, x, 0)
def TurnPost (w : World) (r : List Int × Int × Int) (e : Ending) (w' : World) : Prop := ∃ v, e = .returned (.tuple #[v, .int .i64 r.2.1, .int .i64 r.2.2]) ∧ ListAt w' v r.1 ∧ Below w.heap.size w w'
theorem TurnPost.none {w w' : World} {r : List Int × Int × Int} {y x : Int} (h : r = ([], y, x)) (hb : Below w.heap.size w w') : TurnPost w r (.returned (.tuple #[.slice none 0 0, .int .i64 y, .int .i64 x])) w' := by
  subst h
  exact ⟨_, rfl, ListAt.nil _, hb⟩
theorem Turn_results (W : World) (tmps : Array Value) (x y z : Value) (t2 : tmps.getD 8 undef = x) (t3 : tmps.getD 9 undef = y) (t4 : tmps.getD 10 undef = z) : (results Tryz.f27 tmps).run Tryz.prog W = .ok (.tuple #[x, y, z]) W := by
  simp only [Array.getD_eq_getD_getElem?] at t2 t3 t4
  simp [results, Tryz.results27, go_sem, t2, t3, t4]
theorem turnRes_form (o : Option (Pl × Int)) : ∃ q x ok, turnRes o = .tuple #[plv q, .int .i64 x, .bool ok] ∧ ((ok = true ∧ o = some (q, x)) ∨ (ok = false ∧ o = none)) := by
  cases o with
  | none => exact ⟨_, _, false, rfl, .inr ⟨rfl, rfl⟩⟩
  | some s => exact ⟨s.1, s.2, true, rfl, .inl ⟨rfl, rfl⟩⟩
theorem st6_cell (W : World) (b k : Nat) (hk : k ≠ b) (x0 x1 x2 x3 x4 x5 : Value) : (st6 W b x0 x1 x2 x3 x4 x5).cell? ⟨k, 0, none⟩ = W.cell? ⟨k, 0, none⟩ := by
  simp only [World.cell?, st6_heap W b x0 x1 x2 x3 x4 x5 k hk]

set_option maxRecDepth 100000 in
set_option maxHeartbeats 4000000 in
theorem Turn_any (w : World) (B1 B2 B3 : Nat) (A1 A2 A3 : Option Addr) (n c m d k f : Nat) (ts ss pulls : List Int) (visit : Int) (h1 : IntsAt w B1 A1 n ts) (hB1 : B1 ≤ w.heap.size) (h2 : IntsAt w B2 A2 m ss) (hB2 : B2 ≤ w.heap.size) (h3 : IntsAt w B3 A3 k pulls) (hB3 : B3 ≤ w.heap.size) :
    Calls Tryz.prog 27 #[.agg #[.slice A1 n c], .slice A2 m d, .slice A3 k f, .int .i64 visit] w (TurnPost w (turnR ts ss pulls visit)) := by
  have hb0 : Below w.heap.size w (w.alloc (.cells #[.slice A1 n c] 24)) := (Below.refl _ w).alloc (Nat.le_refl _) _
  have x0 := Boxed.new w 24 (.slice A1 n c)
  have hn := h1.len
  have Hn := Lib.hid hn
  clear hn
  go_enter Tryz.func27, Tryz.ntmps27
  go_wp2_with (fail)
  refine (checkState_any _ B1 B2 A1 A2 n c m d ts ss (h1.below hb0 hB1) (by have := hb0.size; omega) (h2.below hb0 hB2) (by have := hb0.size; omega)).mono ?_
  rintro e w2 ⟨rfl, hb⟩
  have hB := hb0.trans (hb.mono hb0.size)
  have y0 := bxBelow x0 hb x0.lt
  have c0 := y0.cell
  clear hb hb0 x0
  by_cases hr : statedF ts ss = 0
  · obtain ⟨hv, hl, hg⟩ := stated_valid hr
    have hr1 : turnR ts ss pulls visit = if withinF 0 ((n : Int) - 1) pulls = false ∨ incrF pulls = false ∨ withinF 0 ((n : Int) - 1) [visit] = false then (([], 0, 2) : List Int × Int × Int) else match turnF ts (hasF pulls) (plOf ss) visit.toNat with | none => ([], 0, 17) | some (q, x) => (plList q, x, 0) := by
      unfold turnR
      rw [if_neg (by simp [hr]), Hn.out]
    rw [hr]
    have Hr := Lib.hid (And.intro hr1 (And.intro hv (And.intro hl hg)))
    clear hr hr1 hv hl hg
    have hBz := hB.size
    have x1 := Boxed.new w2 57 (.slice A1 n c)
    have hB' : Below w.heap.size w (w2.alloc (.cells #[.slice A1 n c] 57)) := hB.alloc hBz _
    have hns := h1.small
    have c1 := x1.cell
    go_wp2_with (fail)
    refine (areWindows_any _ B3 A1 A3 n c k f pulls hns (h3.below hB' hB3) (by have := hB'.size; omega)).mono ?_
    rintro e w3 ⟨rfl, hb⟩
    have hB3' := hB'.trans (hb.mono hB'.size)
    have x13 := bxBelow x1 hb x1.lt
    clear hb hB' x1 c1
    have c1 := x13.cell
    have Hn5 := Lib.hid hns
    clear hns
    cases hw1 : withinF 0 ((n : Int) - 1) pulls
    · have hr2 : turnR ts ss pulls visit = ([], 0, 2) := by rw [Hr.out.1, if_pos (.inl hw1)]
      have Hr2 := Lib.hid hr2
      clear hw1 hr2
      go_wp2_with (fail)
      refine bodyPost_ret (v := .tuple #[.slice none 0 0, .int .i64 0, .int .i64 2]) (Turn_results _ _ _ _ _ (by simp) (by simp) (by simp)) rfl ?_
      exact TurnPost.none Hr2.out hB3'
    · have Hw1 := Lib.hid hw1
      clear hw1
      go_wp2_with (fail)
      refine (increasing_any _ B3 A3 k f pulls (h3.below hB3' hB3) (by have := hB3'.size; omega)).mono ?_
      rintro e w4 ⟨rfl, hb⟩
      have hB4 := hB3'.trans (hb.mono hB3'.size)
      have x14 := bxBelow x13 hb x13.lt
      clear hb x13 c1
      have c1 := x14.cell
      cases hw2 : incrF pulls
      · have hr2 : turnR ts ss pulls visit = ([], 0, 2) := by rw [Hr.out.1, if_pos (.inr (.inl hw2))]
        have Hr2 := Lib.hid hr2
        clear hw2 hr2
        go_wp2_with (fail)
        refine bodyPost_ret (v := .tuple #[.slice none 0 0, .int .i64 0, .int .i64 2]) (Turn_results _ _ _ _ _ (by simp) (by simp) (by simp)) rfl ?_
        exact TurnPost.none Hr2.out hB4
      · have Hw2 := Lib.hid hw2
        clear hw2
        have hB5 := hB4.alloc hB4.size (.cells #[.int .i64 visit] 3)
        have ho := one_int (w4.alloc (.cells #[.int .i64 visit] 3)) (w4.heap.size + 1) w4.heap.size visit (by omega) (by simp)
        have x15 := x14.alloc (.cells #[.int .i64 visit] 3)
        have c15 := x15.cell
        go_wp2_with (fail)
        refine (areWindows_any _ (w4.heap.size + 1) A1 _ n c 1 1 [visit] Hn5.out ho (by simp)).mono ?_
        rintro e w5 ⟨rfl, hb⟩
        have hB5' := hB5.trans (hb.mono hB5.size)
        have x16 := bxBelow x15 hb x15.lt
        clear hb x14 x15 c1 c15 hB5 ho
        have c1 := x16.cell
        cases hw3 : withinF 0 ((n : Int) - 1) [visit]
        · have hr2 : turnR ts ss pulls visit = ([], 0, 2) := by rw [Hr.out.1, if_pos (.inr (.inr hw3))]
          have Hr2 := Lib.hid hr2
          clear hw3 hr2
          go_wp2_with (fail)
          refine bodyPost_ret (v := .tuple #[.slice none 0 0, .int .i64 0, .int .i64 2]) (Turn_results _ _ _ _ _ (by simp) (by simp) (by simp)) rfl ?_
          exact TurnPost.none Hr2.out hB5'
        · have hr2 : turnR ts ss pulls visit = match turnF ts (hasF pulls) (plOf ss) visit.toNat with | none => ([], 0, 17) | some (q, x) => (plList q, x, 0) := by
            rw [Hr.out.1, if_neg (by rw [Hw1.out, Hw2.out, hw3]; simp)]
          have hvis : ∃ i : Nat, visit = (i : Int) ∧ i < n ∧ visit.toNat = i := by
            rw [within_one] at hw3
            simp at hw3
            exact ⟨visit.toNat, by omega, by omega, rfl⟩
          obtain ⟨i, rfl, hin, hit⟩ := hvis
          rw [hit] at hr2
          have Hr2 := Lib.hid (And.intro hr2 (And.intro hw3 hin))
          clear hw3 hr2 hit hin
          go_wp2_with (fail)
          obtain ⟨q, x, ok, hform, hcase⟩ := turnRes_form (turnF ts (hasF pulls) (plOf ss) i)
          have Hc := Lib.hid hcase
          clear hcase
          refine region_held_wp 1 (fun W' => W'.cell? ⟨w2.heap.size, 0, none⟩ = some (.slice A1 n c)) (fun _ => true) (by kernel_rfl) ?_
          intro KR hKR
          have hfin : ∀ (b13 : Nat) (W : World), PlAt W b13 q → Below w.heap.size w W → KR { tmps := #[.agg #[.slice A1 n c], .slice A2 m d, .slice A3 k f, .int .i64 (i : Int), .pointer (some ⟨w.heap.size, 0, none⟩), undef, undef, undef, .slice none 0 0, .int .i64 0, .int .i64 0, .int .i64 0, .pointer (some ⟨w2.heap.size, 0, none⟩), .pointer (some ⟨b13, 0, none⟩), .int .i64 x, .bool ok, .agg #[.slice A1 n c], .slice A2 m d, .int .i64 0, .int .i64 0, .bool false, undef, .agg #[.slice A1 n c], .agg #[.slice A1 n c], .agg #[.slice A1 n c], .slice A3 k f, .bool true, .bool false, .bool false, .slice A3 k f, .bool true, .bool false, .bool false, .bool false, .agg #[.slice A1 n c], .int .i64 (i : Int), .slice (some ⟨w4.heap.size, 0, none⟩) 1 1, .bool true, .bool false, .bool false, .tuple #[plv q, .int .i64 x, .bool ok], .agg #[.slice A1 n c], .slice A2 m d, plv (plOf ss), .slice A3 k f, .func (.func 57) #[.slice A3 k f] #[], .int .i64 (i : Int), .tuple #[plv q, .int .i64 x, .bool ok], plv q, .int .i64 x, .bool ok, undef, undef, undef, undef, undef], defers := [] } W := by
            intro b13 W hpq hBW
            refine hKR _ _ ?_
            obtain ⟨p0, p1, p2, p3, p4, p5⟩ := hpq.cells
            rcases Hc.out with ⟨rfl, hc⟩ | ⟨rfl, hc⟩
            · have hr3 : turnR ts ss pulls (i : Int) = (plList q, x, 0) := by rw [Hr2.out.1, hc]
              have Hr3 := Lib.hid (And.intro hr3 hc)
              clear hc hr3
              have hqn : q.n = (n : Int) := by
                have h := Hr3.out.2
                unfold turnF at h
                cases hpf : pullF ts (hasF pulls) (plOf ss) with
                | none => rw [hpf] at h; cases h
                | some r =>
                  rw [hpf] at h
                  have hg := pullF_good Hr.out.2.2.2 Hr.out.2.1.h5 hpf
                  have e : (r.set i 0, r.get i) = (q, x) := by simpa using h
                  have e1 : r.set i 0 = q := congrArg Prod.fst e
                  rw [← e1, Pl.set_n, hg.2, Hn.out]
              have Hqn := Lib.hid hqn
              clear hqn
              go_wp2_with (fail)
              refine (list_any W q n (by have := Hr.out.2.1.h1; have := Hn.out; omega) (by have := Hr.out.2.1.h5; have := Hn.out; omega) Hqn.out).mono ?_
              rintro e w9 ⟨A9, rfl, hl9, hb9⟩
              go_wp2_with (fail)
              refine bodyPost_ret (v := .tuple #[.slice A9 n n, .int .i64 x, .int .i64 0]) (Turn_results _ _ _ _ _ (by simp) (by simp) (by simp)) rfl ?_
              unfold TurnPost
              rw [Hr3.out.1]
              exact ⟨_, rfl, ⟨A9, n, n, rfl, hl9⟩, hBW.trans (hb9.mono hBW.size)⟩
            · have hr3 : turnR ts ss pulls (i : Int) = ([], 0, 17) := by rw [Hr2.out.1, hc]
              have Hr3 := Lib.hid (And.intro hr3 hc)
              clear hc hr3 p0 p1 p2 p3 p4 p5
              go_wp2_with (fail)
              refine bodyPost_ret (v := .tuple #[.slice none 0 0, .int .i64 0, .int .i64 17]) (Turn_results _ _ _ _ _ (by simp) (by simp) (by simp)) rfl ?_
              exact TurnPost.none Hr3.out.1 hBW
          have hS : w5.drew.cell? ⟨w2.heap.size, 0, none⟩ = some (.slice A1 n c) := c1
          have hB6 : Below w.heap.size w w5.drew := hB5'.trans ⟨rfl, rfl, rfl, Nat.le_refl _, fun _ _ => rfl⟩
          have hz5 := x16.lt
          refine wpAnyHI_takeD (i := 0) (v := .agg #[.slice A1 n c]) (some 41) rfl rfl (by kernel_rfl) (by kernel_rfl) (by kernel_rfl) (by kernel_rfl) (by kernel_rfl) (fun _ _ _ h => h) hS (.inl ⟨by rfl, fun W' hS' => ?_⟩) ?_
          · go_simp
          refine wpAnyHI_takeD (i := 1) (v := .slice A2 m d) (some 42) rfl rfl (by kernel_rfl) (by kernel_rfl) (by kernel_rfl) (by kernel_rfl) (by kernel_rfl) (fun _ _ _ h => h) hS (.inl ⟨by rfl, fun W' hS' => ?_⟩) ?_
          · go_simp
          refine wpAnyHI_takeD (i := 3) (v := .slice A3 k f) (some 44) rfl rfl (by kernel_rfl) (by kernel_rfl) (by kernel_rfl) (by kernel_rfl) (by kernel_rfl) (fun _ _ _ h => h) hS (.inl ⟨by rfl, fun W' hS' => ?_⟩) ?_
          · go_simp
          refine wpAnyHI_takeD (i := 4) (v := .func (.func 57) #[.slice A3 k f] #[]) (some 45) rfl rfl (by kernel_rfl) (by kernel_rfl) (by kernel_rfl) (by kernel_rfl) (by kernel_rfl) (fun _ _ _ h => h) hS (.inl ⟨by rfl, fun W' hS' => ?_⟩) ?_
          · go_simp
          refine wpAnyHI_takeD (i := 5) (v := .int .i64 (i : Int)) (some 46) rfl rfl (by kernel_rfl) (by kernel_rfl) (by kernel_rfl) (by kernel_rfl) (by kernel_rfl) (fun _ _ _ h => h) hS (.inl ⟨by rfl, fun W' hS' => ?_⟩) ?_
          · go_simp
          refine wpAnyHI_two (i := 2) (j := 11) rfl rfl (by kernel_rfl) ?_ ?_
          · intro K1 hK1
            go_simp
            refine ⟨trivial, (callsIn_wide.2 (placeOf_any w5.drew B2 A2 m d ss (h2.below hB6 hB2) (by have := hB6.size; omega) (by have h5 := Hr.out.2.1.h5; have := Hr.out.2.2.1; have := h2.len; omega))).mono ?_⟩
            rintro e w6 ⟨rfl, hb6⟩
            have hB7 := hB6.trans (hb6.mono hB6.size)
            have hS7 := (hb6.cell (p := ⟨w2.heap.size, 0, none⟩) hz5).trans hS
            have hz6 := hb6.size
            refine hK1 _ _ ⟨fun _ => hS7, ?_⟩
            clear hK1 K1
            refine wpAnyHI_two (i := 6) (j := 11) rfl rfl (by kernel_rfl) ?_ ?_
            · intro K1 hK1
              go_simp
              refine ⟨trivial, (callsIn_wide.2 (turn_any w6 B1 A1 n c ts (h1.below hB7 hB1) (by have := hB7.size; omega) (by have := Hr.out.2.1.h5; have := Hn.out; omega) (fun j hj => Hr.out.2.1.h12 j (by have := Hn.out; omega)) (plOf ss) Hr.out.2.2.2.1 57 #[.slice A3 k f] (hasF pulls) (pullFn_has _ _ B3 A3 k f pulls (h3.below hB7 hB3) (by have := hB7.size; omega)) i (by have := Hr.out.2.1.h5; have := Hn.out; have := Hr2.out.2.2; omega))).mono ?_⟩
              rintro e w7 ⟨rfl, hb7⟩
              rw [hform]
              have hB8 := hB7.trans (hb7.mono hB7.size)
              have hS := (hb7.cell (p := ⟨w2.heap.size, 0, none⟩) (Nat.lt_of_lt_of_le hz5 hz6)).trans hS7
              have hz7 := hb7.size
              refine hK1 _ _ ⟨fun _ => hS, ?_⟩
              clear hK1 K1
              refine wpAnyHI_takeD (i := 7) (v := .tuple #[plv q, .int .i64 x, .bool ok]) (some 40) rfl rfl (by kernel_rfl) (by kernel_rfl) (by kernel_rfl) (by kernel_rfl) (by kernel_rfl) (fun _ _ _ h => h) hS (.inl ⟨by rfl, fun W' hS' => ?_⟩) ?_
              · go_simp
              refine wpAnyHI_takeD (i := 8) (v := plv q) (some 48) rfl rfl (by kernel_rfl) (by kernel_rfl) (by kernel_rfl) (by kernel_rfl) (by kernel_rfl) (fun _ _ _ h => h) hS (.inl ⟨by rfl, fun W' hS' => ?_⟩) ?_
              · go_simp
              refine wpAnyHI_takeD (i := 9) (v := .int .i64 x) (some 49) rfl rfl (by kernel_rfl) (by kernel_rfl) (by kernel_rfl) (by kernel_rfl) (by kernel_rfl) (fun _ _ _ h => h) hS (.inl ⟨by rfl, fun W' hS' => ?_⟩) ?_
              · go_simp
              refine wpAnyHI_takeD (i := 10) (v := .bool ok) (some 50) rfl rfl (by kernel_rfl) (by kernel_rfl) (by kernel_rfl) (by kernel_rfl) (by kernel_rfl) (fun _ _ _ h => h) hS (.inl ⟨by rfl, fun W' hS' => ?_⟩) ?_
              · go_simp
              refine wpAnyHI_one (i := 11) rfl (by kernel_rfl) ?_
              intro K1 hK1
              go_simp
              have hB8 := hB8.alloc hB8.size (.cells (plc ⟨0, 0, 0, 0, 0, 0⟩) 64)
              have hS8 : (w7.alloc (.cells (plc ⟨0, 0, 0, 0, 0, 0⟩) 64)).cell? ⟨w2.heap.size, 0, none⟩ = some (.slice A1 n c) := (World.cell?_alloc_lt _ _ _ (show w2.heap.size < w7.heap.size from Nat.lt_of_lt_of_le hz5 (Nat.le_trans hz6 hz7))).trans hS
              refine hK1 _ _ ⟨fun _ => hS8, ?_⟩
              clear hK1 K1
              have hz8 : w2.heap.size < w7.heap.size := Nat.lt_of_lt_of_le hz5 (Nat.le_trans hz6 hz7)
              have hpl := PlAt.new w7 ⟨0, 0, 0, 0, 0, 0⟩
              generalize w7.alloc (.cells (plc ⟨0, 0, 0, 0, 0, 0⟩) 64) = W8 at *
              obtain ⟨p0, p1, p2, p3, p4, p5⟩ := hpl.cells
              obtain ⟨f0, f1, f2, f3, f4, f5⟩ := hpl.frozens
              refine wpAnyHI_one (i := 12) rfl (by kernel_rfl) ?_
              intro K1 hK1
              go_simp
              have hpq := hpl.store q
              have hS9 := (st6_cell W8 w7.heap.size w2.heap.size (by omega) (.int .i64 q.n) (.int .i64 q.a) (.int .i64 q.b) (.int .i64 q.c) (.int .i64 q.d) (.int .i64 q.e)).trans hS8
              have hB9 := st6_below (b := w7.heap.size) (x0 := .int .i64 q.n) (x1 := .int .i64 q.a) (x2 := .int .i64 q.b) (x3 := .int .i64 q.c) (x4 := .int .i64 q.d) (x5 := .int .i64 q.e) hB8 (by omega)
              refine hK1 _ _ ⟨fun _ => hS9, ?_⟩
              clear hK1 K1 p0 p1 p2 p3 p4 p5 f0 f1 f2 f3 f4 f5 hS8 hB8
              refine wpAnyHI_takeD (i := 13) (v := .int .i64 x) (some 14) rfl rfl (by kernel_rfl) (by kernel_rfl) (by kernel_rfl) (by kernel_rfl) (by kernel_rfl) (fun _ _ _ h => h) hS9 (.inl ⟨by rfl, fun W' hS' => ?_⟩) ?_
              · go_simp
              refine wpAnyHI_takeD (i := 14) (v := .bool ok) (some 15) rfl rfl (by kernel_rfl) (by kernel_rfl) (by kernel_rfl) (by kernel_rfl) (by kernel_rfl) (fun _ _ _ h => h) hS9 (.inl ⟨by rfl, fun W' hS' => ?_⟩) ?_
              · go_simp
              refine wpAnyHI_end (by kernel_rfl) ?_
              show KR _ _
              refine act_eq (K := KR) (a' := { tmps := #[.agg #[.slice A1 n c], .slice A2 m d, .slice A3 k f, .int .i64 (i : Int), .pointer (some ⟨w.heap.size, 0, none⟩), undef, undef, undef, .slice none 0 0, .int .i64 0, .int .i64 0, .int .i64 0, .pointer (some ⟨w2.heap.size, 0, none⟩), .pointer (some ⟨w7.heap.size, 0, none⟩), .int .i64 x, .bool ok, .agg #[.slice A1 n c], .slice A2 m d, .int .i64 0, .int .i64 0, .bool false, undef, .agg #[.slice A1 n c], .agg #[.slice A1 n c], .agg #[.slice A1 n c], .slice A3 k f, .bool true, .bool false, .bool false, .slice A3 k f, .bool true, .bool false, .bool false, .bool false, .agg #[.slice A1 n c], .int .i64 (i : Int), .slice (some ⟨w4.heap.size, 0, none⟩) 1 1, .bool true, .bool false, .bool false, .tuple #[plv q, .int .i64 x, .bool ok], .agg #[.slice A1 n c], .slice A2 m d, plv (plOf ss), .slice A3 k f, .func (.func 57) #[.slice A3 k f] #[], .int .i64 (i : Int), .tuple #[plv q, .int .i64 x, .bool ok], plv q, .int .i64 x, .bool ok, undef, undef, undef, undef, undef], defers := [] }) rfl ?_
              exact hfin _ _ hpq hB9
            · intro K1 hK1
              go_simp
              have hB7 := hB7.alloc hB7.size (.cells (plc ⟨0, 0, 0, 0, 0, 0⟩) 64)
              have hS7 : (w6.alloc (.cells (plc ⟨0, 0, 0, 0, 0, 0⟩) 64)).cell? ⟨w2.heap.size, 0, none⟩ = some (.slice A1 n c) := (World.cell?_alloc_lt _ _ _ (show w2.heap.size < w6.heap.size from Nat.lt_of_lt_of_le hz5 hz6)).trans hS7
              refine hK1 _ _ ⟨fun _ => hS7, ?_⟩
              clear hK1 K1
              have hz8 : w2.heap.size < w6.heap.size := Nat.lt_of_lt_of_le hz5 hz6
              have hp6 := PlAt.new w6 ⟨0, 0, 0, 0, 0, 0⟩
              generalize w6.alloc (.cells (plc ⟨0, 0, 0, 0, 0, 0⟩) 64) = V6 at *
              refine wpAnyHI_one (i := 6) rfl (by kernel_rfl) ?_
              intro K1 hK1
              go_simp
              refine ⟨trivial, (callsIn_wide.2 (turn_any V6 B1 A1 n c ts (h1.below hB7 hB1) (by have := hB7.size; omega) (by have := Hr.out.2.1.h5; have := Hn.out; omega) (fun j hj => Hr.out.2.1.h12 j (by have := Hn.out; omega)) (plOf ss) Hr.out.2.2.2.1 57 #[.slice A3 k f] (hasF pulls) (pullFn_has _ _ B3 A3 k f pulls (h3.below hB7 hB3) (by have := hB7.size; omega)) i (by have := Hr.out.2.1.h5; have := Hn.out; have := Hr2.out.2.2; omega))).mono ?_⟩
              rintro e w7 ⟨rfl, hb7⟩
              rw [hform]
              have hB8 := hB7.trans (hb7.mono hB7.size)
              have hS8 := (hb7.cell (p := ⟨w2.heap.size, 0, none⟩) (Nat.lt_trans hz8 hp6.lt)).trans hS7
              have hpl := hp6.below hb7 hp6.lt
              refine hK1 _ _ ⟨fun _ => hS8, ?_⟩
              clear hK1 K1
              have hS := hS8
              generalize w7 = W8 at *
              refine wpAnyHI_takeD (i := 7) (v := .tuple #[plv q, .int .i64 x, .bool ok]) (some 40) rfl rfl (by kernel_rfl) (by kernel_rfl) (by kernel_rfl) (by kernel_rfl) (by kernel_rfl) (fun _ _ _ h => h) hS (.inl ⟨by rfl, fun W' hS' => ?_⟩) ?_
              · go_simp
              refine wpAnyHI_takeD (i := 8) (v := plv q) (some 48) rfl rfl (by kernel_rfl) (by kernel_rfl) (by kernel_rfl) (by kernel_rfl) (by kernel_rfl) (fun _ _ _ h => h) hS (.inl ⟨by rfl, fun W' hS' => ?_⟩) ?_
              · go_simp
              refine wpAnyHI_takeD (i := 9) (v := .int .i64 x) (some 49) rfl rfl (by kernel_rfl) (by kernel_rfl) (by kernel_rfl) (by kernel_rfl) (by kernel_rfl) (fun _ _ _ h => h) hS (.inl ⟨by rfl, fun W' hS' => ?_⟩) ?_
              · go_simp
              refine wpAnyHI_takeD (i := 10) (v := .bool ok) (some 50) rfl rfl (by kernel_rfl) (by kernel_rfl) (by kernel_rfl) (by kernel_rfl) (by kernel_rfl) (fun _ _ _ h => h) hS (.inl ⟨by rfl, fun W' hS' => ?_⟩) ?_
              · go_simp
              obtain ⟨p0, p1, p2, p3, p4, p5⟩ := hpl.cells
              obtain ⟨f0, f1, f2, f3, f4, f5⟩ := hpl.frozens
              refine wpAnyHI_one (i := 12) rfl (by kernel_rfl) ?_
              intro K1 hK1
              go_simp
              have hpq := hpl.store q
              have hS9 := (st6_cell W8 w6.heap.size w2.heap.size (by omega) (.int .i64 q.n) (.int .i64 q.a) (.int .i64 q.b) (.int .i64 q.c) (.int .i64 q.d) (.int .i64 q.e)).trans hS8
              have hB9 := st6_below (b := w6.heap.size) (x0 := .int .i64 q.n) (x1 := .int .i64 q.a) (x2 := .int .i64 q.b) (x3 := .int .i64 q.c) (x4 := .int .i64 q.d) (x5 := .int .i64 q.e) hB8 (by omega)
              refine hK1 _ _ ⟨fun _ => hS9, ?_⟩
              clear hK1 K1 p0 p1 p2 p3 p4 p5 f0 f1 f2 f3 f4 f5 hS8 hB8
              refine wpAnyHI_takeD (i := 13) (v := .int .i64 x) (some 14) rfl rfl (by kernel_rfl) (by kernel_rfl) (by kernel_rfl) (by kernel_rfl) (by kernel_rfl) (fun _ _ _ h => h) hS9 (.inl ⟨by rfl, fun W' hS' => ?_⟩) ?_
              · go_simp
              refine wpAnyHI_takeD (i := 14) (v := .bool ok) (some 15) rfl rfl (by kernel_rfl) (by kernel_rfl) (by kernel_rfl) (by kernel_rfl) (by kernel_rfl) (fun _ _ _ h => h) hS9 (.inl ⟨by rfl, fun W' hS' => ?_⟩) ?_
              · go_simp
              refine wpAnyHI_end (by kernel_rfl) ?_
              show KR _ _
              refine act_eq (K := KR) (a' := { tmps := #[.agg #[.slice A1 n c], .slice A2 m d, .slice A3 k f, .int .i64 (i : Int), .pointer (some ⟨w.heap.size, 0, none⟩), undef, undef, undef, .slice none 0 0, .int .i64 0, .int .i64 0, .int .i64 0, .pointer (some ⟨w2.heap.size, 0, none⟩), .pointer (some ⟨w6.heap.size, 0, none⟩), .int .i64 x, .bool ok, .agg #[.slice A1 n c], .slice A2 m d, .int .i64 0, .int .i64 0, .bool false, undef, .agg #[.slice A1 n c], .agg #[.slice A1 n c], .agg #[.slice A1 n c], .slice A3 k f, .bool true, .bool false, .bool false, .slice A3 k f, .bool true, .bool false, .bool false, .bool false, .agg #[.slice A1 n c], .int .i64 (i : Int), .slice (some ⟨w4.heap.size, 0, none⟩) 1 1, .bool true, .bool false, .bool false, .tuple #[plv q, .int .i64 x, .bool ok], .agg #[.slice A1 n c], .slice A2 m d, plv (plOf ss), .slice A3 k f, .func (.func 57) #[.slice A3 k f] #[], .int .i64 (i : Int), .tuple #[plv q, .int .i64 x, .bool ok], plv q, .int .i64 x, .bool ok, undef, undef, undef, undef, undef], defers := [] }) rfl ?_
              exact hfin _ _ hpq hB9
          · intro K1 hK1
            go_simp
            have hB6 : Below w.heap.size w (w5.alloc (.cells (plc ⟨0, 0, 0, 0, 0, 0⟩) 64)).drew := (hB5'.alloc hB5'.size (.cells (plc ⟨0, 0, 0, 0, 0, 0⟩) 64)).trans ⟨rfl, rfl, rfl, Nat.le_refl _, fun _ _ => rfl⟩
            have hS : (w5.alloc (.cells (plc ⟨0, 0, 0, 0, 0, 0⟩) 64)).drew.cell? ⟨w2.heap.size, 0, none⟩ = some (.slice A1 n c) := (World.cell?_alloc_lt w5 (.cells (plc ⟨0, 0, 0, 0, 0, 0⟩) 64) _ (show w2.heap.size < w5.heap.size from hz5)).trans c1
            refine hK1 _ _ ⟨fun _ => hS, ?_⟩
            clear hK1 K1
            have hp5 : PlAt (w5.alloc (.cells (plc ⟨0, 0, 0, 0, 0, 0⟩) 64)).drew w5.heap.size ⟨0, 0, 0, 0, 0, 0⟩ := PlAt.new w5 ⟨0, 0, 0, 0, 0, 0⟩
            have hz8 : w2.heap.size < w5.heap.size := hz5
            have hz9 : w2.heap.size < (w5.alloc (.cells (plc ⟨0, 0, 0, 0, 0, 0⟩) 64)).drew.heap.size := Nat.lt_trans hz5 hp5.lt
            generalize (w5.alloc (.cells (plc ⟨0, 0, 0, 0, 0, 0⟩) 64)).drew = V5 at *
            refine wpAnyHI_one (i := 2) rfl (by kernel_rfl) ?_
            intro K1 hK1
            go_simp
            refine ⟨trivial, (callsIn_wide.2 (placeOf_any V5 B2 A2 m d ss (h2.below hB6 hB2) (by have := hB6.size; omega) (by have h5 := Hr.out.2.1.h5; have := Hr.out.2.2.1; have := h2.len; omega))).mono ?_⟩
            rintro e w6 ⟨rfl, hb6⟩
            have hB7 := hB6.trans (hb6.mono hB6.size)
            have hS7 := (hb6.cell (p := ⟨w2.heap.size, 0, none⟩) hz9).trans hS
            have hp6 := hp5.below hb6 hp5.lt
            have hz10 : w2.heap.size < w6.heap.size := Nat.lt_of_lt_of_le hz9 hb6.size
            refine hK1 _ _ ⟨fun _ => hS7, ?_⟩
            clear hK1 K1
            refine wpAnyHI_one (i := 6) rfl (by kernel_rfl) ?_
            intro K1 hK1
            go_simp
            refine ⟨trivial, (callsIn_wide.2 (turn_any w6 B1 A1 n c ts (h1.below hB7 hB1) (by have := hB7.size; omega) (by have := Hr.out.2.1.h5; have := Hn.out; omega) (fun j hj => Hr.out.2.1.h12 j (by have := Hn.out; omega)) (plOf ss) Hr.out.2.2.2.1 57 #[.slice A3 k f] (hasF pulls) (pullFn_has _ _ B3 A3 k f pulls (h3.below hB7 hB3) (by have := hB7.size; omega)) i (by have := Hr.out.2.1.h5; have := Hn.out; have := Hr2.out.2.2; omega))).mono ?_⟩
            rintro e w7 ⟨rfl, hb7⟩
            rw [hform]
            have hB8 := hB7.trans (hb7.mono hB7.size)
            have hS8 := (hb7.cell (p := ⟨w2.heap.size, 0, none⟩) hz10).trans hS7
            have hpl := hp6.below hb7 hp6.lt
            refine hK1 _ _ ⟨fun _ => hS8, ?_⟩
            clear hK1 K1
            have hS := hS8
            generalize w7 = W8 at *
            refine wpAnyHI_takeD (i := 7) (v := .tuple #[plv q, .int .i64 x, .bool ok]) (some 40) rfl rfl (by kernel_rfl) (by kernel_rfl) (by kernel_rfl) (by kernel_rfl) (by kernel_rfl) (fun _ _ _ h => h) hS (.inl ⟨by rfl, fun W' hS' => ?_⟩) ?_
            · go_simp
            refine wpAnyHI_takeD (i := 8) (v := plv q) (some 48) rfl rfl (by kernel_rfl) (by kernel_rfl) (by kernel_rfl) (by kernel_rfl) (by kernel_rfl) (fun _ _ _ h => h) hS (.inl ⟨by rfl, fun W' hS' => ?_⟩) ?_
            · go_simp
            refine wpAnyHI_takeD (i := 9) (v := .int .i64 x) (some 49) rfl rfl (by kernel_rfl) (by kernel_rfl) (by kernel_rfl) (by kernel_rfl) (by kernel_rfl) (fun _ _ _ h => h) hS (.inl ⟨by rfl, fun W' hS' => ?_⟩) ?_
            · go_simp
            refine wpAnyHI_takeD (i := 10) (v := .bool ok) (some 50) rfl rfl (by kernel_rfl) (by kernel_rfl) (by kernel_rfl) (by kernel_rfl) (by kernel_rfl) (fun _ _ _ h => h) hS (.inl ⟨by rfl, fun W' hS' => ?_⟩) ?_
            · go_simp
            obtain ⟨p0, p1, p2, p3, p4, p5⟩ := hpl.cells
            obtain ⟨f0, f1, f2, f3, f4, f5⟩ := hpl.frozens
            refine wpAnyHI_one (i := 12) rfl (by kernel_rfl) ?_
            intro K1 hK1
            go_simp
            have hpq := hpl.store q
            have hS9 := (st6_cell W8 w5.heap.size w2.heap.size (by omega) (.int .i64 q.n) (.int .i64 q.a) (.int .i64 q.b) (.int .i64 q.c) (.int .i64 q.d) (.int .i64 q.e)).trans hS8
            have hB9 := st6_below (b := w5.heap.size) (x0 := .int .i64 q.n) (x1 := .int .i64 q.a) (x2 := .int .i64 q.b) (x3 := .int .i64 q.c) (x4 := .int .i64 q.d) (x5 := .int .i64 q.e) hB8 (by omega)
            refine hK1 _ _ ⟨fun _ => hS9, ?_⟩
            clear hK1 K1 p0 p1 p2 p3 p4 p5 f0 f1 f2 f3 f4 f5 hS8 hB8
            refine wpAnyHI_takeD (i := 13) (v := .int .i64 x) (some 14) rfl rfl (by kernel_rfl) (by kernel_rfl) (by kernel_rfl) (by kernel_rfl) (by kernel_rfl) (fun _ _ _ h => h) hS9 (.inl ⟨by rfl, fun W' hS' => ?_⟩) ?_
            · go_simp
            refine wpAnyHI_takeD (i := 14) (v := .bool ok) (some 15) rfl rfl (by kernel_rfl) (by kernel_rfl) (by kernel_rfl) (by kernel_rfl) (by kernel_rfl) (fun _ _ _ h => h) hS9 (.inl ⟨by rfl, fun W' hS' => ?_⟩) ?_
            · go_simp
            refine wpAnyHI_end (by kernel_rfl) ?_
            show KR _ _
            refine act_eq (K := KR) (a' := { tmps := #[.agg #[.slice A1 n c], .slice A2 m d, .slice A3 k f, .int .i64 (i : Int), .pointer (some ⟨w.heap.size, 0, none⟩), undef, undef, undef, .slice none 0 0, .int .i64 0, .int .i64 0, .int .i64 0, .pointer (some ⟨w2.heap.size, 0, none⟩), .pointer (some ⟨w5.heap.size, 0, none⟩), .int .i64 x, .bool ok, .agg #[.slice A1 n c], .slice A2 m d, .int .i64 0, .int .i64 0, .bool false, undef, .agg #[.slice A1 n c], .agg #[.slice A1 n c], .agg #[.slice A1 n c], .slice A3 k f, .bool true, .bool false, .bool false, .slice A3 k f, .bool true, .bool false, .bool false, .bool false, .agg #[.slice A1 n c], .int .i64 (i : Int), .slice (some ⟨w4.heap.size, 0, none⟩) 1 1, .bool true, .bool false, .bool false, .tuple #[plv q, .int .i64 x, .bool ok], .agg #[.slice A1 n c], .slice A2 m d, plv (plOf ss), .slice A3 k f, .func (.func 57) #[.slice A3 k f] #[], .int .i64 (i : Int), .tuple #[plv q, .int .i64 x, .bool ok], plv q, .int .i64 x, .bool ok, undef, undef, undef, undef, undef], defers := [] }) rfl ?_
            exact hfin _ _ hpq hB9
  · have hr1 : turnR ts ss pulls visit = ([], 0, statedF ts ss) := by unfold turnR; rw [if_pos hr]
    obtain ⟨r, hrr⟩ : ∃ r, r = statedF ts ss := ⟨_, rfl⟩
    rw [← hrr] at hr hr1 ⊢
    have Hr := Lib.hid (And.intro hrr hr1)
    clear hrr hr1
    go_wp2_with (fail)
    refine bodyPost_ret (v := .tuple #[.slice none 0 0, .int .i64 0, .int .i64 r]) (Turn_results _ _ _ _ _ (by simp) (by simp) (by simp)) rfl ?_
    exact TurnPost.none Hr.out.2 hB
end Go.Proofs.YthjgecblkagelaaGreat

/- isCircle, CheckCircle, Play. -/
namespace Go.Proofs.YthjgecblkagelaaGreat
open Go.RowKit Go.Shelf

attribute [local go_sem] Oper.semAt_some

theorem playL_cons (ts : List Int) (i : Int) (row : List Int) (p : Pl) : playL ts (i :: row) p = match turnF ts allF p i.toNat with | some (q, _) => playL ts row q | none => none := by
  unfold playL
  simp only [List.foldl_cons, Option.bind_some]
  cases turnF ts allF p i.toNat with
  | none => exact play_none ts row
  | some s => rfl
theorem playN_lt {ts : List Int} : ∀ (row : List Int) (p : Pl), playL ts row p = none → playN ts row p < row.length
  | [], p, h => by simp [playL] at h
  | i :: row, p, h => by
    rw [playL_cons] at h
    unfold playN
    cases ht : turnF ts allF p i.toNat with
    | none => simp
    | some s =>
      rw [ht] at h
      have := playN_lt row s.1 h
      simp
      omega
theorem playL_good {ts : List Int} (hv : Valid ts) : ∀ (row : List Int) (p q : Pl), (∀ i ∈ row, 0 ≤ i ∧ i < ts.length) → PlGood ts p → playL ts row p = some q → PlGood ts q
  | [], p, q, _, hp, h => by
    have e : p = q := by simpa [playL] using h
    exact e ▸ hp
  | i :: row, p, q, hi, hp, h => by
    rw [playL_cons] at h
    cases ht : turnF ts allF p i.toNat with
    | none => rw [ht] at h; cases h
    | some s =>
      rw [ht] at h
      refine playL_good hv row s.1 q (fun j hj => hi j (by simp [hj])) ?_ h
      obtain ⟨s1, s2⟩ := s
      have h0 := hi i (by simp)
      refine ⟨turnF_ok hv.h5 hv.h12 (by have := hv.h5; omega) ht hp.1, ?_⟩
      unfold turnF at ht
      cases hpf : pullF ts allF p with
      | none => rw [hpf] at ht; cases ht
      | some r =>
        rw [hpf] at ht
        have e : (r.set i.toNat 0, r.get i.toNat) = (s1, s2) := by simpa using ht
        have e1 : r.set i.toNat 0 = s1 := congrArg Prod.fst e
        show s1.n = ts.length
        rw [← e1, Pl.set_n]
        exact (pullF_good hp hv.h5 hpf).2
theorem playRes_form (ts row : List Int) (p : Pl) : ∃ q x, playRes ts row p = .tuple #[plv q, .int .i64 (x : Int)] ∧ ((x = (row.length : Int) ∧ playL ts row p = some q) ∨ (x = (playN ts row p : Int) ∧ x < row.length ∧ playL ts row p = none)) := by
  unfold playRes
  cases h : playL ts row p with
  | some q => exact ⟨q, _, rfl, .inl ⟨rfl, rfl⟩⟩
  | none => exact ⟨_, _, rfl, .inr ⟨rfl, by have := playN_lt row p h; omega, rfl⟩⟩
theorem within_mem {lo hi : Int} {xs : List Int} (h : withinF lo hi xs = true) : ∀ x ∈ xs, lo ≤ x ∧ x ≤ hi := by
  intro x hx
  unfold withinF at h
  have := (List.all_eq_true.1 h) x hx
  simpa using this
theorem equalIn_pl (p q : Pl) (w : World) : (Op.equalIn 10000 64 (.agg #[.int .i64 p.n, .int .i64 p.a, .int .i64 p.b, .int .i64 p.c, .int .i64 p.d, .int .i64 p.e]) (.agg #[.int .i64 q.n, .int .i64 q.a, .int .i64 q.b, .int .i64 q.c, .int .i64 q.d, .int .i64 q.e])).run Tryz.prog w = .ok (decide (p = q)) w := equal_pl p q w
def circleF (ts row : List Int) : Bool := match playL ts row ⟨ts.length, 0, 0, 0, 0, 0⟩ with
  | none => false
  | some q => match playL ts row q with
    | none => false
    | some r => decide (r = q)
theorem empty_good {ts : List Int} (hv : Valid ts) : PlGood ts ⟨ts.length, 0, 0, 0, 0, 0⟩ := by
  refine ⟨fun i hi => ?_, rfl⟩
  have h := hv.h12 i hi
  have h0 : (⟨ts.length, 0, 0, 0, 0, 0⟩ : Pl).get i = 0 := by
    match i with
    | 0 => rfl
    | 1 => rfl
    | 2 => rfl
    | 3 => rfl
    | 4 => rfl
    | i + 5 => rfl
  rw [h0]
  omega

set_option maxRecDepth 100000 in
set_option maxHeartbeats 4000000 in
theorem isCircle_any (w : World) (B B2 : Nat) (A A2 : Option Addr) (n c m d : Nat) (ts row : List Int) (hx : IntsAt w B A n ts) (hB : B ≤ w.heap.size) (hr : IntsAt w B2 A2 m row) (hB2 : B2 ≤ w.heap.size) (hv : Valid ts) (hw : withinF 0 ((n : Int) - 1) row = true) :
    Calls Tryz.prog 61 #[.agg #[.slice A n c], .slice A2 m d] w fun e w' => e = .returned (.bool (circleF ts row)) ∧ Below w.heap.size w w' := by
  have hn := hx.len
  have hm := hr.len
  have hsm := hr.small
  have hB5' : Below w.heap.size w (w.alloc (.cells #[.slice A n c] 57)) := (Below.refl _ w).alloc (Nat.le_refl _) _
  have x0 := Boxed.new w 57 (.slice A n c)
  have he := empty_good hv
  rw [hn] at he
  have Hh := Lib.hid (And.intro (show n ≤ 5 by have := hv.h5; omega) (And.intro (show ∀ i, i < n → 1 ≤ ts[i]?.getD 0 ∧ ts[i]?.getD 0 ≤ 12 from fun i hi => hv.h12 i (by omega)) (And.intro he.1 hw)))
  obtain ⟨q, x, hform, hcase⟩ := playRes_form ts row ⟨n, 0, 0, 0, 0, 0⟩
  have Hc := Lib.hid hcase
  have Hn := Lib.hid (And.intro hn (And.intro hm he))
  clear hcase hn hm he hw
  go_enter Tryz.func61, Tryz.ntmps61
  go_wp2_with (fail)
  have c1 := x0.cell
  have hz5 := x0.lt
  generalize w.alloc (.cells #[.slice A n c] 57) = w5 at *
  refine region_held_wp 1 (fun W' => W'.cell? ⟨w.heap.size, 0, none⟩ = some (.slice A n c)) (fun _ => true) (by kernel_rfl) ?_
  intro KR hKR
  have hfin : ∀ (b13 : Nat) (W : World), PlAt W b13 q → Below w.heap.size w W → W.cell? ⟨w.heap.size, 0, none⟩ = some (.slice A n c) → KR { tmps := #[.agg #[.slice A n c], .slice A2 m d, .pointer (some ⟨w.heap.size, 0, none⟩), undef, .bool false, .pointer (some ⟨b13, 0, none⟩), .int .i64 x, undef, .tuple #[plv q, .int .i64 x], .agg #[.slice A n c], .agg #[.slice A n c], plv ⟨n, 0, 0, 0, 0, 0⟩, .slice A2 m d, .tuple #[plv q, .int .i64 x], plv q, .int .i64 x, undef, undef, undef, undef, undef, undef, undef, undef, undef, undef, undef, undef, undef, undef, undef, undef, undef, undef, undef, undef], defers := [] } W := by
    intro b13 W hpq hBW hcS
    refine hKR _ _ ?_
    obtain ⟨p0, p1, p2, p3, p4, p5⟩ := hpq.cells
    rcases Hc.out with ⟨hx1, hc⟩ | ⟨-, hx1, hc⟩
    · have hxm : x = (m : Int) := by rw [hx1, Hn.out.2.1]
      have hq : PlGood ts q := playL_good hv row _ q (fun i hi => by have := within_mem Hh.out.2.2.2 i hi; have := Hn.out.1; omega) Hn.out.2.2 hc
      obtain ⟨r, y, hform2, hcase2⟩ := playRes_form ts row q
      have hcf : circleF ts row = match playL ts row q with | none => false | some r => decide (r = q) := by unfold circleF; rw [Hn.out.1, hc]
      have Hc2 := Lib.hid (And.intro hcase2 (And.intro hcf hq))
      subst hxm
      clear hc hcase2 hx1 hcf hq
      have hlt : ¬ (m : Int) < (m : Int) := by omega
      go_wp2_with (fail)
      refine (play_any W B A n c ts (hx.below hBW hB) (by have := hBW.size; omega) Hh.out.1 Hh.out.2.1 q Hc2.out.2.2.1 B2 A2 m d row (hr.below hBW hB2) (by have := hBW.size; omega) Hh.out.2.2.2).mono ?_
      rintro e w8 ⟨rfl, hb8⟩
      have hB8 := hBW.trans (hb8.mono hBW.size)
      have hpq8 := hpq.below hb8 hpq.lt
      rw [hform2]
      clear p0 p1 p2 p3 p4 p5 hb8
      have hpa := hpq8.alloc (.cells (plc r) 64)
      obtain ⟨p0, p1, p2, p3, p4, p5⟩ := hpa.cells
      have heq := equalIn_pl r q
      rcases Hc2.out.1 with ⟨hy1, hc⟩ | ⟨-, hy1, hc⟩
      · have hym : y = (m : Int) := by rw [hy1, Hn.out.2.1]
        subst hym
        obtain ⟨bq, hbq⟩ : ∃ bq, bq = decide (r = q) := ⟨_, rfl⟩
        rw [← hbq] at heq
        have Hc3 := Lib.hid (And.intro hc hbq)
        clear hc hy1 hbq
        cases bq
        · go_wp2_with (fail)
          go_ret
          exact ⟨ret_bool (by rw [Hc2.out.2.1, Hc3.out.1]; exact Hc3.out.2), hB8.alloc hB8.size _⟩
        · go_wp2_with (fail)
          go_ret
          exact ⟨ret_bool (by rw [Hc2.out.2.1, Hc3.out.1]; exact Hc3.out.2), hB8.alloc hB8.size _⟩
      · have hne : y ≠ (m : Int) := by have := Hn.out.2.1; omega
        have Hc3 := Lib.hid hc
        clear hc hy1
        have hyb : (y == (m : Int)) = false := by simp [hne]
        go_wp2_with (fail)
        go_ret
        exact ⟨ret_bool (by rw [Hc2.out.2.1, Hc3.out]), hB8.alloc hB8.size _⟩
    · have hxm : x < (m : Int) := by have := Hn.out.2.1; omega
      have Hc2 := Lib.hid hc
      clear hx1 hc
      go_wp2_with (fail)
      go_ret
      exact ⟨ret_bool (by unfold circleF; rw [Hn.out.1, Hc2.out]), hBW⟩
  have hS : w5.drew.cell? ⟨w.heap.size, 0, none⟩ = some (.slice A n c) := c1
  have hB6 : Below w.heap.size w w5.drew := hB5'.trans ⟨rfl, rfl, rfl, Nat.le_refl _, fun _ _ => rfl⟩
  refine wpAnyHI_takeD (i := 0) (v := .agg #[.slice A n c]) (some 9) rfl rfl (by kernel_rfl) (by kernel_rfl) (by kernel_rfl) (by kernel_rfl) (by kernel_rfl) (fun _ _ _ h => h) hS (.inl ⟨by rfl, fun W' hS' => ?_⟩) ?_
  · go_simp
  refine wpAnyHI_takeD (i := 1) (v := .agg #[.slice A n c]) (some 10) rfl rfl (by kernel_rfl) (by kernel_rfl) (by kernel_rfl) (by kernel_rfl) (by kernel_rfl) (fun _ _ _ h => h) hS (.inl ⟨by rfl, fun W' hS' => ?_⟩) ?_
  · go_simp
  refine wpAnyHI_takeD (i := 3) (v := .slice A2 m d) (some 12) rfl rfl (by kernel_rfl) (by kernel_rfl) (by kernel_rfl) (by kernel_rfl) (by kernel_rfl) (fun _ _ _ h => h) hS (.inl ⟨by rfl, fun W' hS' => ?_⟩) ?_
  · go_simp
  refine wpAnyHI_two (i := 2) (j := 8) rfl rfl (by kernel_rfl) ?_ ?_
  · intro K1 hK1
    go_simp
    refine ⟨trivial, (callsIn_wide.2 (empty_any w5.drew A n c)).mono ?_⟩
    rintro e w6 ⟨rfl, hb6⟩
    have hB7 := hB6.trans (hb6.mono hB6.size)
    have hS7 := (hb6.cell (p := ⟨w.heap.size, 0, none⟩) hz5).trans hS
    have hz6 := hb6.size
    refine hK1 _ _ ⟨fun _ => hS7, ?_⟩
    clear hK1 K1
    refine wpAnyHI_two (i := 4) (j := 8) rfl rfl (by kernel_rfl) ?_ ?_
    · intro K1 hK1
      go_simp
      refine ⟨trivial, (callsIn_wide.2 (play_any w6 B A n c ts (hx.below hB7 hB) (by have := hB7.size; omega) Hh.out.1 Hh.out.2.1 ⟨n, 0, 0, 0, 0, 0⟩ Hh.out.2.2.1 B2 A2 m d row (hr.below hB7 hB2) (by have := hB7.size; omega) Hh.out.2.2.2)).mono ?_⟩
      rintro e w7 ⟨rfl, hb7⟩
      rw [hform]
      have hB8 := hB7.trans (hb7.mono hB7.size)
      have hS := (hb7.cell (p := ⟨w.heap.size, 0, none⟩) (Nat.lt_of_lt_of_le hz5 hz6)).trans hS7
      have hz7 := hb7.size
      refine hK1 _ _ ⟨fun _ => hS, ?_⟩
      clear hK1 K1
      refine wpAnyHI_takeD (i := 5) (v := .tuple #[plv q, .int .i64 x]) (some 8) rfl rfl (by kernel_rfl) (by kernel_rfl) (by kernel_rfl) (by kernel_rfl) (by kernel_rfl) (fun _ _ _ h => h) hS (.inl ⟨by rfl, fun W' hS' => ?_⟩) ?_
      · go_simp
      refine wpAnyHI_takeD (i := 6) (v := plv q) (some 14) rfl rfl (by kernel_rfl) (by kernel_rfl) (by kernel_rfl) (by kernel_rfl) (by kernel_rfl) (fun _ _ _ h => h) hS (.inl ⟨by rfl, fun W' hS' => ?_⟩) ?_
      · go_simp
      refine wpAnyHI_takeD (i := 7) (v := .int .i64 x) (some 15) rfl rfl (by kernel_rfl) (by kernel_rfl) (by kernel_rfl) (by kernel_rfl) (by kernel_rfl) (fun _ _ _ h => h) hS (.inl ⟨by rfl, fun W' hS' => ?_⟩) ?_
      · go_simp
      refine wpAnyHI_one (i := 8) rfl (by kernel_rfl) ?_
      intro K1 hK1
      go_simp
      have hB8 := hB8.alloc hB8.size (.cells (plc ⟨0, 0, 0, 0, 0, 0⟩) 64)
      have hz8 : w.heap.size < w7.heap.size := Nat.lt_of_lt_of_le hz5 (Nat.le_trans hz6 hz7)
      have hS8 : (w7.alloc (.cells (plc ⟨0, 0, 0, 0, 0, 0⟩) 64)).cell? ⟨w.heap.size, 0, none⟩ = some (.slice A n c) := (World.cell?_alloc_lt _ _ _ hz8).trans hS
      refine hK1 _ _ ⟨fun _ => hS8, ?_⟩
      clear hK1 K1
      have hpl := PlAt.new w7 ⟨0, 0, 0, 0, 0, 0⟩
      generalize w7.alloc (.cells (plc ⟨0, 0, 0, 0, 0, 0⟩) 64) = W8 at *
      obtain ⟨p0, p1, p2, p3, p4, p5⟩ := hpl.cells
      obtain ⟨f0, f1, f2, f3, f4, f5⟩ := hpl.frozens
      refine wpAnyHI_one (i := 9) rfl (by kernel_rfl) ?_
      intro K1 hK1
      go_simp
      have hpq := hpl.store q
      have hS9 := (st6_cell W8 w7.heap.size w.heap.size (by omega) (.int .i64 q.n) (.int .i64 q.a) (.int .i64 q.b) (.int .i64 q.c) (.int .i64 q.d) (.int .i64 q.e)).trans hS8
      have hB9 := st6_below (b := w7.heap.size) (x0 := .int .i64 q.n) (x1 := .int .i64 q.a) (x2 := .int .i64 q.b) (x3 := .int .i64 q.c) (x4 := .int .i64 q.d) (x5 := .int .i64 q.e) hB8 (by omega)
      refine hK1 _ _ ⟨fun _ => hS9, ?_⟩
      clear hK1 K1 p0 p1 p2 p3 p4 p5 f0 f1 f2 f3 f4 f5 hS8 hB8
      refine wpAnyHI_takeD (i := 10) (v := .int .i64 x) (some 6) rfl rfl (by kernel_rfl) (by kernel_rfl) (by kernel_rfl) (by kernel_rfl) (by kernel_rfl) (fun _ _ _ h => h) hS9 (.inl ⟨by rfl, fun W' hS' => ?_⟩) ?_
      · go_simp
      refine wpAnyHI_end (by kernel_rfl) ?_
      show KR _ _
      refine act_eq (K := KR) (a' := { tmps := #[.agg #[.slice A n c], .slice A2 m d, .pointer (some ⟨w.heap.size, 0, none⟩), undef, .bool false, .pointer (some ⟨w7.heap.size, 0, none⟩), .int .i64 x, undef, .tuple #[plv q, .int .i64 x], .agg #[.slice A n c], .agg #[.slice A n c], plv ⟨n, 0, 0, 0, 0, 0⟩, .slice A2 m d, .tuple #[plv q, .int .i64 x], plv q, .int .i64 x, undef, undef, undef, undef, undef, undef, undef, undef, undef, undef, undef, undef, undef, undef, undef, undef, undef, undef, undef, undef], defers := [] }) rfl ?_
      exact hfin _ _ hpq hB9 hS9
    · intro K1 hK1
      go_simp
      have hB7 := hB7.alloc hB7.size (.cells (plc ⟨0, 0, 0, 0, 0, 0⟩) 64)
      have hz8 : w.heap.size < w6.heap.size := Nat.lt_of_lt_of_le hz5 hz6
      have hS7 : (w6.alloc (.cells (plc ⟨0, 0, 0, 0, 0, 0⟩) 64)).cell? ⟨w.heap.size, 0, none⟩ = some (.slice A n c) := (World.cell?_alloc_lt _ _ _ hz8).trans hS7
      refine hK1 _ _ ⟨fun _ => hS7, ?_⟩
      clear hK1 K1
      have hp6 := PlAt.new w6 ⟨0, 0, 0, 0, 0, 0⟩
      generalize w6.alloc (.cells (plc ⟨0, 0, 0, 0, 0, 0⟩) 64) = V6 at *
      refine wpAnyHI_one (i := 4) rfl (by kernel_rfl) ?_
      intro K1 hK1
      go_simp
      refine ⟨trivial, (callsIn_wide.2 (play_any V6 B A n c ts (hx.below hB7 hB) (by have := hB7.size; omega) Hh.out.1 Hh.out.2.1 ⟨n, 0, 0, 0, 0, 0⟩ Hh.out.2.2.1 B2 A2 m d row (hr.below hB7 hB2) (by have := hB7.size; omega) Hh.out.2.2.2)).mono ?_⟩
      rintro e w7 ⟨rfl, hb7⟩
      rw [hform]
      have hB8 := hB7.trans (hb7.mono hB7.size)
      have hS8 := (hb7.cell (p := ⟨w.heap.size, 0, none⟩) (Nat.lt_trans hz8 hp6.lt)).trans hS7
      have hpl := hp6.below hb7 hp6.lt
      refine hK1 _ _ ⟨fun _ => hS8, ?_⟩
      clear hK1 K1
      have hS := hS8
      generalize w7 = W8 at *
      refine wpAnyHI_takeD (i := 5) (v := .tuple #[plv q, .int .i64 x]) (some 8) rfl rfl (by kernel_rfl) (by kernel_rfl) (by kernel_rfl) (by kernel_rfl) (by kernel_rfl) (fun _ _ _ h => h) hS (.inl ⟨by rfl, fun W' hS' => ?_⟩) ?_
      · go_simp
      refine wpAnyHI_takeD (i := 6) (v := plv q) (some 14) rfl rfl (by kernel_rfl) (by kernel_rfl) (by kernel_rfl) (by kernel_rfl) (by kernel_rfl) (fun _ _ _ h => h) hS (.inl ⟨by rfl, fun W' hS' => ?_⟩) ?_
      · go_simp
      refine wpAnyHI_takeD (i := 7) (v := .int .i64 x) (some 15) rfl rfl (by kernel_rfl) (by kernel_rfl) (by kernel_rfl) (by kernel_rfl) (by kernel_rfl) (fun _ _ _ h => h) hS (.inl ⟨by rfl, fun W' hS' => ?_⟩) ?_
      · go_simp
      obtain ⟨p0, p1, p2, p3, p4, p5⟩ := hpl.cells
      obtain ⟨f0, f1, f2, f3, f4, f5⟩ := hpl.frozens
      refine wpAnyHI_one (i := 9) rfl (by kernel_rfl) ?_
      intro K1 hK1
      go_simp
      have hpq := hpl.store q
      have hS9 := (st6_cell W8 w6.heap.size w.heap.size (by omega) (.int .i64 q.n) (.int .i64 q.a) (.int .i64 q.b) (.int .i64 q.c) (.int .i64 q.d) (.int .i64 q.e)).trans hS8
      have hB9 := st6_below (b := w6.heap.size) (x0 := .int .i64 q.n) (x1 := .int .i64 q.a) (x2 := .int .i64 q.b) (x3 := .int .i64 q.c) (x4 := .int .i64 q.d) (x5 := .int .i64 q.e) hB8 (by omega)
      refine hK1 _ _ ⟨fun _ => hS9, ?_⟩
      clear hK1 K1 p0 p1 p2 p3 p4 p5 f0 f1 f2 f3 f4 f5 hS8 hB8
      refine wpAnyHI_takeD (i := 10) (v := .int .i64 x) (some 6) rfl rfl (by kernel_rfl) (by kernel_rfl) (by kernel_rfl) (by kernel_rfl) (by kernel_rfl) (fun _ _ _ h => h) hS9 (.inl ⟨by rfl, fun W' hS' => ?_⟩) ?_
      · go_simp
      refine wpAnyHI_end (by kernel_rfl) ?_
      show KR _ _
      refine act_eq (K := KR) (a' := { tmps := #[.agg #[.slice A n c], .slice A2 m d, .pointer (some ⟨w.heap.size, 0, none⟩), undef, .bool false, .pointer (some ⟨w6.heap.size, 0, none⟩), .int .i64 x, undef, .tuple #[plv q, .int .i64 x], .agg #[.slice A n c], .agg #[.slice A n c], plv ⟨n, 0, 0, 0, 0, 0⟩, .slice A2 m d, .tuple #[plv q, .int .i64 x], plv q, .int .i64 x, undef, undef, undef, undef, undef, undef, undef, undef, undef, undef, undef, undef, undef, undef, undef, undef, undef, undef, undef, undef], defers := [] }) rfl ?_
      exact hfin _ _ hpq hB9 hS9
  · intro K1 hK1
    go_simp
    have hB6 : Below w.heap.size w (w5.alloc (.cells (plc ⟨0, 0, 0, 0, 0, 0⟩) 64)).drew := (hB5'.alloc hB5'.size (.cells (plc ⟨0, 0, 0, 0, 0, 0⟩) 64)).trans ⟨rfl, rfl, rfl, Nat.le_refl _, fun _ _ => rfl⟩
    have hS : (w5.alloc (.cells (plc ⟨0, 0, 0, 0, 0, 0⟩) 64)).drew.cell? ⟨w.heap.size, 0, none⟩ = some (.slice A n c) := (World.cell?_alloc_lt w5 (.cells (plc ⟨0, 0, 0, 0, 0, 0⟩) 64) _ hz5).trans c1
    refine hK1 _ _ ⟨fun _ => hS, ?_⟩
    clear hK1 K1
    have hp5 : PlAt (w5.alloc (.cells (plc ⟨0, 0, 0, 0, 0, 0⟩) 64)).drew w5.heap.size ⟨0, 0, 0, 0, 0, 0⟩ := PlAt.new w5 ⟨0, 0, 0, 0, 0, 0⟩
    have hz9 : w.heap.size < (w5.alloc (.cells (plc ⟨0, 0, 0, 0, 0, 0⟩) 64)).drew.heap.size := Nat.lt_trans hz5 hp5.lt
    generalize (w5.alloc (.cells (plc ⟨0, 0, 0, 0, 0, 0⟩) 64)).drew = V5 at *
    refine wpAnyHI_one (i := 2) rfl (by kernel_rfl) ?_
    intro K1 hK1
    go_simp
    refine ⟨trivial, (callsIn_wide.2 (empty_any V5 A n c)).mono ?_⟩
    rintro e w6 ⟨rfl, hb6⟩
    have hB7 := hB6.trans (hb6.mono hB6.size)
    have hS7 := (hb6.cell (p := ⟨w.heap.size, 0, none⟩) hz9).trans hS
    have hp6 := hp5.below hb6 hp5.lt
    have hz10 : w.heap.size < w6.heap.size := Nat.lt_of_lt_of_le hz9 hb6.size
    refine hK1 _ _ ⟨fun _ => hS7, ?_⟩
    clear hK1 K1
    refine wpAnyHI_one (i := 4) rfl (by kernel_rfl) ?_
    intro K1 hK1
    go_simp
    refine ⟨trivial, (callsIn_wide.2 (play_any w6 B A n c ts (hx.below hB7 hB) (by have := hB7.size; omega) Hh.out.1 Hh.out.2.1 ⟨n, 0, 0, 0, 0, 0⟩ Hh.out.2.2.1 B2 A2 m d row (hr.below hB7 hB2) (by have := hB7.size; omega) Hh.out.2.2.2)).mono ?_⟩
    rintro e w7 ⟨rfl, hb7⟩
    rw [hform]
    have hB8 := hB7.trans (hb7.mono hB7.size)
    have hS8 := (hb7.cell (p := ⟨w.heap.size, 0, none⟩) hz10).trans hS7
    have hpl := hp6.below hb7 hp6.lt
    refine hK1 _ _ ⟨fun _ => hS8, ?_⟩
    clear hK1 K1
    have hS := hS8
    generalize w7 = W8 at *
    refine wpAnyHI_takeD (i := 5) (v := .tuple #[plv q, .int .i64 x]) (some 8) rfl rfl (by kernel_rfl) (by kernel_rfl) (by kernel_rfl) (by kernel_rfl) (by kernel_rfl) (fun _ _ _ h => h) hS (.inl ⟨by rfl, fun W' hS' => ?_⟩) ?_
    · go_simp
    refine wpAnyHI_takeD (i := 6) (v := plv q) (some 14) rfl rfl (by kernel_rfl) (by kernel_rfl) (by kernel_rfl) (by kernel_rfl) (by kernel_rfl) (fun _ _ _ h => h) hS (.inl ⟨by rfl, fun W' hS' => ?_⟩) ?_
    · go_simp
    refine wpAnyHI_takeD (i := 7) (v := .int .i64 x) (some 15) rfl rfl (by kernel_rfl) (by kernel_rfl) (by kernel_rfl) (by kernel_rfl) (by kernel_rfl) (fun _ _ _ h => h) hS (.inl ⟨by rfl, fun W' hS' => ?_⟩) ?_
    · go_simp
    obtain ⟨p0, p1, p2, p3, p4, p5⟩ := hpl.cells
    obtain ⟨f0, f1, f2, f3, f4, f5⟩ := hpl.frozens
    refine wpAnyHI_one (i := 9) rfl (by kernel_rfl) ?_
    intro K1 hK1
    go_simp
    have hpq := hpl.store q
    have hS9 := (st6_cell W8 w5.heap.size w.heap.size (by omega) (.int .i64 q.n) (.int .i64 q.a) (.int .i64 q.b) (.int .i64 q.c) (.int .i64 q.d) (.int .i64 q.e)).trans hS8
    have hB9 := st6_below (b := w5.heap.size) (x0 := .int .i64 q.n) (x1 := .int .i64 q.a) (x2 := .int .i64 q.b) (x3 := .int .i64 q.c) (x4 := .int .i64 q.d) (x5 := .int .i64 q.e) hB8 (by omega)
    refine hK1 _ _ ⟨fun _ => hS9, ?_⟩
    clear hK1 K1 p0 p1 p2 p3 p4 p5 f0 f1 f2 f3 f4 f5 hS8 hB8
    refine wpAnyHI_takeD (i := 10) (v := .int .i64 x) (some 6) rfl rfl (by kernel_rfl) (by kernel_rfl) (by kernel_rfl) (by kernel_rfl) (by kernel_rfl) (fun _ _ _ h => h) hS9 (.inl ⟨by rfl, fun W' hS' => ?_⟩) ?_
    · go_simp
    refine wpAnyHI_end (by kernel_rfl) ?_
    show KR _ _
    refine act_eq (K := KR) (a' := { tmps := #[.agg #[.slice A n c], .slice A2 m d, .pointer (some ⟨w.heap.size, 0, none⟩), undef, .bool false, .pointer (some ⟨w5.heap.size, 0, none⟩), .int .i64 x, undef, .tuple #[plv q, .int .i64 x], .agg #[.slice A n c], .agg #[.slice A n c], plv ⟨n, 0, 0, 0, 0, 0⟩, .slice A2 m d, .tuple #[plv q, .int .i64 x], plv q, .int .i64 x, undef, undef, undef, undef, undef, undef, undef, undef, undef, undef, undef, undef, undef, undef, undef, undef, undef, undef, undef, undef], defers := [] }) rfl ?_
    exact hfin _ _ hpq hB9 hS9
end Go.Proofs.YthjgecblkagelaaGreat
