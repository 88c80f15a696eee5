/- Parts of a proof: BK BL BM BN BO. -/
import Derived.Test.YthjgecblkagelaaGreatM21

/- doomedBy. -/
namespace Go.Proofs.YthjgecblkagelaaGreat
open Go.RowKit Go.Shelf

attribute [local go_sem] Oper.semAt_some

def badVisit (ll : List (Pl × Int)) (left : Int) (x : Nat × Pl) : Bool := decide (left ≤ mget 0 ll x.2)
def doomedF (ts : List Int) (p : Pl) (ss : List (List Int × Int)) : Bool := (ss.all fun s => (visitsF ts (plOf s.1)).all fun x => !badVisit (llF ts ss) s.2 x) && decide (mget 0 (llF ts ss) p ≠ 1099511627777)
theorem doomed_no {ts : List Int} {p : Pl} {ss : List (List Int × Int)} {s : List Int × Int} {x : Nat × Pl} (hs : s ∈ ss) (hx : x ∈ visitsF ts (plOf s.1)) (h : badVisit (llF ts ss) s.2 x = true) : doomedF ts p ss = false := by
  unfold doomedF
  rw [Bool.and_eq_false_iff]
  left
  rw [List.all_eq_false]
  refine ⟨s, hs, ?_⟩
  rw [Bool.not_eq_true, List.all_eq_false]
  exact ⟨x, hx, by simp [h]⟩
theorem doomed_end {ts : List Int} {p : Pl} {ss : List (List Int × Int)} (h : ∀ s ∈ ss, ∀ x ∈ visitsF ts (plOf s.1), badVisit (llF ts ss) s.2 x = false) : doomedF ts p ss = decide (mget 0 (llF ts ss) p ≠ 1099511627777) := by
  unfold doomedF
  have : (ss.all fun s => (visitsF ts (plOf s.1)).all fun x => !badVisit (llF ts ss) s.2 x) = true := by
    rw [List.all_eq_true]
    intro s hs
    rw [List.all_eq_true]
    intro x hx
    simp [h s hs x hx]
  rw [this, Bool.true_and]

def StepAt (W : World) (b : Nat) (v : Value) (left : Int) : Prop := W.heap[b]? = some (.cells #[v, .int .i64 left] 54 (0, 0))
theorem StepAt.lt {W : World} {b : Nat} {v : Value} {left : Int} (h : StepAt W b v left) : b < W.heap.size := (Array.getElem?_eq_some_iff.1 h).1
theorem StepAt.cells {W : World} {b : Nat} {v : Value} {left : Int} (h : StepAt W b v left) : W.cell? ⟨b, 0, none⟩ = some v ∧ W.cell? ⟨b, 1, none⟩ = some (.int .i64 left) := by
  unfold StepAt at h
  simp [World.cell?, h]
theorem StepAt.below {W W' : World} {b D : Nat} {v : Value} {left : Int} (h : StepAt W b v left) (hb : Below D W W') (hD : b < D) : StepAt W' b v left := (hb.block b hD).trans h

/-- What the memory holds while steps are looked at. -/
structure DbB (w : World) (B bl bx : Nat) (Ds : List Nat) (A : Option Addr) (n c : Nat) (p : Pl) (ll : List (Pl × Int)) (rv : Bool) (X : Nat → Prop) (W : World) : Prop where
  hX : ∀ k, X k → B ≤ k
  hz : B ≤ W.heap.size
  hb : Boxed W w.heap.size 57 (.slice A n c)
  hp : PlAt W (w.heap.size + 1) p
  hr : Boxed W (w.heap.size + 2) 4 (.bool rv)
  bm : Boxed W bx 122 (.map (some bl))
  ml : MapAt Int encI W bl ll
  mks : MarksAt w.heap.size Ds W
  bel : Below w.heap.size w W
section
variable {w : World} {B bl bx : Nat} {Ds : List Nat} {A : Option Addr} {n c : Nat} {p : Pl} {ll : List (Pl × Int)} {rv : Bool} {X X' : Nat → Prop} {W W' : World}
theorem DbB.st (h : DbB w B bl bx Ds A n c p ll rv X W) (hst : St B X W W') (hgr : Grows X X' W) (h1 : w.heap.size + 3 ≤ B) (h2 : bl < B) (h3 : bx < B) (hDs : ∀ D ∈ Ds, D < B) : DbB w B bl bx Ds A n c p ll rv X' W' := by
  have hX := h.hX
  have hz := h.hz
  have hbz := h.bel.size
  exact ⟨fun k hk => (hgr.2 k hk).elim (hX k) (fun h => by omega), Nat.le_trans hz hst.base.size, hst.bx h.hb (fun h => by have := hX _ h; omega), hst.pl h.hp (fun h => by have := hX _ h; omega), hst.bx h.hr (fun h => by have := hX _ h; omega), hst.bx h.bm (fun h => by have := hX _ h; omega),
    hst.mp h.ml (fun h => by have := hX _ h; omega) (by omega), h.mks.same (fun D hD hh => hst.same _ _ hh (fun h => by have := hX _ h; have := hDs D hD; omega) (.inr (hDs D hD))), h.bel.trans (hst.below (fun k h => by have := hX k h; omega) (by omega) hbz)⟩
theorem DbB.next {D B0 : Nat} (h : DbB w B bl bx Ds A n c p ll rv X W) (hB0 : B0 ≤ B) (hH : w.heap.size ≤ B) (hD : B ≤ D) (hK : W.heap[D]? = some (.deferred (some []))) (hDs : ∀ D ∈ Ds, D < B) : DbB w B0 bl bx (D :: Ds) A n c p ll rv noBlock W :=
  ⟨fun _ h => h.elim, Nat.le_trans hB0 h.hz, h.hb, h.hp, h.hr, h.bm, h.ml, MarksAt.cons h.mks (by omega) hK (fun hd => by have := hDs D hd; omega), h.bel⟩
end
theorem doomedBy_results (W : World) (tmps : Array Value) (b : Nat) (y : Bool) (h : Boxed W b 4 (.bool y)) (t1 : tmps.getD 6 undef = .pointer (some ⟨b, 0, none⟩)) : (results Tryz.f63 tmps).run Tryz.prog W = .ok (.bool y) W := by
  have d1 := h.cell
  simp only [Array.getD_eq_getD_getElem?] at t1
  simp [results, Tryz.results63, go_sem, t1, d1]
theorem doomed_leaves {w W : World} {Ds : List Nat} {tmps : Array Value} {y : Bool} (hr : Boxed W (w.heap.size + 2) 4 (.bool y)) (hmk : MarksAt w.heap.size Ds W) (hbl : Below w.heap.size w W) (t6 : tmps.getD 6 undef = .pointer (some ⟨w.heap.size + 2, 0, none⟩)) :
    LeavesInM Fence.wide 3 Tryz.prog Tryz.f63 tmps (fun e w' => e = .returned (.bool y) ∧ Below w.heap.size w w') (marks Ds) .returning W := by
  refine leaves_marks (n := w.heap.size) Ds _ hmk ?_
  exact ⟨_, doomedBy_results _ _ (w.heap.size + 2) y ((putAll_heap (n := w.heap.size) Ds W _ (not_mark hmk hr (by simp))).trans hr) t6, rfl, putAll_below Ds W hbl hbl.size (fun D hD => (hmk.2 D hD).1)⟩

set_option maxRecDepth 100000 in
set_option maxHeartbeats 8000000 in
theorem doomedBy_any (w : World) (B B2 : Nat) (A A2 : Option Addr) (n c k d : Nat) (ts : List Int) (ss : List (List Int × Int)) (hx : IntsAt w B A n ts) (hB : B ≤ w.heap.size) (hv : Valid ts) (hs : StepsAt w B2 A2 k ss) (hB2 : B2 ≤ w.heap.size) (hs5 : ∀ s ∈ ss, PlGood ts (plOf s.1) ∧ s.1.length ≤ 5) (p : Pl) :
    Calls Tryz.prog 63 #[.agg #[.slice A n c], plv p, .slice A2 k d] w fun e w' => e = .returned (.bool (doomedF ts p ss)) ∧ Below w.heap.size w w' := by
  have hn := hx.len
  have hk9 := hs.2.1
  have hsl := hs.1
  obtain ⟨V, hV⟩ : ∃ V, V = ((w.alloc (.cells #[.slice A n c] 57)).alloc (.cells (plc p) 64)).alloc (.cells #[.bool false] 4) := ⟨_, rfl⟩
  have hzV : V.heap.size = w.heap.size + 3 := by rw [hV]; simp
  have hbV : Below w.heap.size w V := by rw [hV]; exact (((Below.refl _ w).alloc (Nat.le_refl _) _).alloc (by simp) _).alloc (by simp; omega) _
  have x0 : Boxed V w.heap.size 57 (.slice A n c) := by rw [hV]; exact ((Boxed.new w 57 (.slice A n c)).alloc _).alloc _
  have x1 : PlAt V (w.heap.size + 1) p := by
    rw [hV]
    have := PlAt.new (w.alloc (.cells #[.slice A n c] 57)) p
    rw [World.size_alloc] at this
    exact this.alloc _
  have x2 : Boxed V (w.heap.size + 2) 4 (.bool false) := by
    rw [hV]
    have := Boxed.new ((w.alloc (.cells #[.slice A n c] 57)).alloc (.cells (plc p) 64)) 4 (.bool false)
    simp only [World.size_alloc, Nat.add_assoc, Nat.reduceAdd] at this
    exact this
  have HV := Lib.hid hV
  have Hn := Lib.hid (And.intro hn (And.intro hsl hs5))
  have c0 := x0.cell
  clear hV hn hsl hs5
  refine (callsIn_wide (n := 3)).1 ?_
  refine callsIn_of_wp_marks Tryz.func63 rfl trivial ?_ rfl
  simp only [Tryz.ntmps63, List.size_toArray, List.length_cons, List.length_nil, Nat.reduceAdd, Nat.reduceSub, Array.replicate_succ, Array.replicate_zero, List.push_toArray, List.append_toArray, List.nil_append, List.cons_append]
  gi_wp2_with (fail)
  rw [← HV.out]
  refine ⟨trivial, (callsIn_wide.2 (leastLeft_any V B B2 A A2 n c k d ts ss (hx.below hbV hB) (by omega) hv (hs.below hbV hB2) (by omega) (fun s h => (Hn.out.2.2 s h).2))).mono ?_⟩
  rintro e w2 ⟨bl, rfl, hbl, hml, hb2⟩
  have hB2' : Below w.heap.size w w2 := hbV.trans (hb2.mono (by omega))
  have hz2 := hb2.size
  have hmlt := hml.lt
  obtain ⟨ll, hll⟩ : ∃ ll, ll = llF ts ss := ⟨_, rfl⟩
  rw [← hll] at hml
  have hG : DbB w (w2.heap.size + 1) bl w2.heap.size [] A n c p ll false noBlock (w2.alloc (.cells #[.map (some bl)] 122)) := ⟨fun _ h => h.elim, by simp, (bxBelow x0 hb2 x0.lt).alloc _, (x1.below hb2 x1.lt).alloc _, (bxBelow x2 hb2 x2.lt).alloc _, Boxed.new w2 _ _, hml.alloc _, MarksAt.nil _ _, hB2'.alloc hB2'.size _⟩
  obtain ⟨bx, hbx⟩ : ∃ bx, bx = w2.heap.size := ⟨_, rfl⟩
  have Hll := Lib.hid hll
  clear hll x0 x1 x2 c0 hb2 HV
  gi_wp2_with (fail)
  rw [← hbx] at hG ⊢
  have hblx : bl < bx := by omega
  have hwbx : w.heap.size + 3 ≤ bx := by omega
  clear hbx hml hmlt hB2' hz2 hbl hbV hzV
  refine wpIn_loop_ghost_k (fun g a wr => ∃ (j : Nat) (kk : Int) (Ds : List Nat) (u8 u9 u10 u11 u12 u13 u14 u18 u19 u20 u21 u22 u23 u24 u25 u26 u27 u28 u29 u30 u31 u32 u33 u34 u35 u36 u37 u38 : Value), a = { tmps := #[.agg #[.slice A n c], plv p, .slice A2 k d, .pointer (some ⟨w.heap.size, 0, none⟩), .pointer (some ⟨w.heap.size + 1, 0, none⟩), undef, .pointer (some ⟨w.heap.size + 2, 0, none⟩), .pointer (some ⟨bx, 0, none⟩), u8, u9, u10, u11, u12, u13, u14, .slice A2 k d, .int .i64 (k : Int), .int .i64 kk, u18, u19, u20, u21, u22, u23, u24, u25, u26, u27, u28, u29, u30, u31, u32, u33, u34, u35, u36, u37, u38], defers := marks Ds } ∧ (kk = (j : Int) ∧ j ≤ k ∧ g = k - j) ∧ (∀ s ∈ ss.take j, ∀ x ∈ visitsF ts (plOf s.1), badVisit ll s.2 x = false) ∧ DbB w (bx + 1) bl bx Ds A n c p ll false noBlock wr) k ?_ ?_
  · exact ⟨0, 0, [], _, _, _, _, _, _, _, _, _, _, _, _, _, _, _, _, _, _, _, _, _, _, _, _, _, _, _, _, rfl, ⟨rfl, by omega, rfl⟩, fun s h => by simp at h, hG⟩
  · clear hG
    rintro g a wr ⟨j, kk, Ds, u8, u9, u10, u11, u12, u13, u14, u18, u19, u20, u21, u22, u23, u24, u25, u26, u27, u28, u29, u30, u31, u32, u33, u34, u35, u36, u37, u38, rfl, ⟨rfl, hjk, rfl⟩, hall, hG⟩ J K hIJ hK
    have hzr := hG.hz
    have c0 := hG.hb.cell
    have c2 := hG.hr.cell
    have f2 := hG.hr.frozen
    obtain ⟨e0, e1, e2, e3, e4, e5⟩ := hG.hp.cells
    have cx := hG.bm.cell
    have hl0 : w.heap.size < wr.heap.size := by omega
    have hl1 : w.heap.size + 1 < wr.heap.size := by omega
    have hl2 : w.heap.size + 2 < wr.heap.size := by omega
    have Ha := Lib.hid hall
    clear hall
    by_cases hj : j < k
    · have hjj : IntKind.i64.wrap ((j : Int) + 1) = (j : Int) + 1 := by rw [IntKind.wrap_i64]; omega
      obtain ⟨b0, off, rfl, hbB, hcs⟩ := (hs.below hG.bel hB2).2.2 (by omega)
      obtain ⟨s, hsj⟩ : ∃ s, ss[j]? = some s := ⟨_, List.getElem?_eq_getElem (by have := Hn.out.2.1; omega)⟩
      obtain ⟨A', m, c', h1, h2, h3⟩ := hcs j s hsj
      have hmem := List.mem_of_getElem? hsj
      obtain ⟨hsg, hs5⟩ := Hn.out.2.2 s hmem
      have hm5 : m ≤ 5 := by rw [← h3.len]; exact hs5
      have htk : ss.take (j + 1) = ss.take j ++ [s] := by
        obtain ⟨hlt, rfl⟩ := List.getElem?_eq_some_iff.1 hsj
        exact List.take_succ_eq_append_getElem hlt
      have Hj := Lib.hid (And.intro hmem (And.intro hsg htk))
      clear hsj hcs hmem hsg hs5 htk
      have hwz := hG.bel.size
      gi_wp2_with (fail)
      have hb4 : Below wr.heap.size wr (wr.alloc (.cells #[.slice A' m c', .int .i64 s.2] 54)) := (Below.refl _ wr).alloc (Nat.le_refl _) _
      have y0 : Boxed (wr.alloc (.cells #[.slice A' m c', .int .i64 s.2] 54)).drew w.heap.size 57 (.slice A n c) := bxDrew (bxBelow hG.hb hb4 hl0)
      have y1 : StepAt (wr.alloc (.cells #[.slice A' m c', .int .i64 s.2] 54)).drew wr.heap.size (.slice A' m c') s.2 := World.alloc_heap_new wr _
      refine region_held (fun W' => Boxed W' w.heap.size 57 (.slice A n c) ∧ StepAt W' wr.heap.size (.slice A' m c') s.2) (fun j => decide (j ≤ 3)) (by kernel_rfl) ?_
      intro KR hKR
      have hS0 := And.intro y0 y1
      refine wpAnyHI_takeE (i := 0) (v := .agg #[.slice A n c]) (some 21) rfl rfl (by kernel_rfl) (by kernel_rfl) (by kernel_rfl) (by kernel_rfl) (by kernel_rfl) (fun _ _ _ h => h) hS0 (.inl ⟨by kernel_rfl, fun W'' hS' => ?_⟩) ?_
      · obtain ⟨a1, a2⟩ := hS'
        have b1 := Boxed.cell a1
        obtain ⟨b2, b3⟩ := a2.cells
        go_simp
      refine wpAnyHI_takeE (i := 1) (v := .pointer (some ⟨wr.heap.size, 0, none⟩)) (some 22) rfl rfl (by kernel_rfl) (by kernel_rfl) (by kernel_rfl) (by kernel_rfl) (by kernel_rfl) (fun _ _ _ h => h) hS0 (.inl ⟨by kernel_rfl, fun W'' hS' => ?_⟩) ?_
      · obtain ⟨a1, a2⟩ := hS'
        have b1 := Boxed.cell a1
        obtain ⟨b2, b3⟩ := a2.cells
        go_simp
      refine wpAnyHI_takeE (i := 2) (v := .slice A' m c') (some 23) rfl rfl (by kernel_rfl) (by kernel_rfl) (by kernel_rfl) (by kernel_rfl) (by kernel_rfl) (fun _ _ _ h => h) hS0 (.inl ⟨by kernel_rfl, fun W'' hS' => ?_⟩) ?_
      · obtain ⟨a1, a2⟩ := hS'
        have b1 := Boxed.cell a1
        obtain ⟨b2, b3⟩ := a2.cells
        go_simp
      refine wpAnyHI_one (i := 3) rfl (by kernel_rfl) ?_
      intro K1 hK1
      go_simp
      have hi4 : IntsAt (wr.alloc (.cells #[.slice A' m c', .int .i64 s.2] 54)).drew B2 A' m s.1 := h3.alloc (by omega) _
      refine ⟨trivial, (callsIn_wide.2 (placeOf_any (wr.alloc (.cells #[.slice A' m c', .int .i64 s.2] 54)).drew B2 A' m c' s.1 hi4 (by show B2 ≤ (wr.alloc (.cells #[.slice A' m c', .int .i64 s.2] 54)).heap.size; simp; omega) hm5)).mono ?_⟩
      rintro e w4 ⟨rfl, hb5⟩
      have hb5 : Below (wr.alloc (.cells #[.slice A' m c', .int .i64 s.2] 54)).heap.size (wr.alloc (.cells #[.slice A' m c', .int .i64 s.2] 54)) w4 := ⟨hb5.os, hb5.tape, hb5.output, hb5.size, hb5.block⟩
      have hz4 : wr.heap.size + 1 ≤ w4.heap.size := by have := hb5.size; simpa using this
      have hbw4 : Below wr.heap.size wr w4 := hb4.trans (hb5.mono (by simp))
      have z1 : StepAt w4 wr.heap.size (.slice A' m c') s.2 := (hb5.block _ (by simp)).trans y1
      refine hK1 _ _ ⟨fun _ => ⟨bxBelow hG.hb hbw4 hl0, z1⟩, ?_⟩
      clear hK1 K1
      refine wpAnyHI_one (i := 4) rfl (by kernel_rfl) ?_
      intro K1 hK1
      go_simp
      refine ⟨trivial, (callsIn_wide.2 (visits_box _ _ _ _ _)).mono ?_⟩
      rintro e w5 ⟨Bh, Bp, rfl, hBh, hBp, hgh, hgp, hb6⟩
      refine hK1 _ _ ⟨fun h => (by cases h), wpAnyHI_end (by kernel_rfl) ?_⟩
      show KR _ _
      refine hKR _ _ ?_
      clear hK1 K1 hKR KR hS0 y0 y1 c0 c2 f2 e0 e1 e2 e3 e4 e5 cx
      have hz5 := hb6.size
      have hbw5 : Below wr.heap.size wr w5 := hbw4.trans (hb6.mono (by omega))
      have z5 := z1.below hb6 z1.lt
      have hB5 : Below w.heap.size w w5 := hG.bel.trans (hbw5.mono hwz)
      have hG5 : DbB w w5.heap.size bl bx Ds A n c p ll false noBlock w5 := ⟨fun _ h => h.elim, Nat.le_refl _, bxBelow hG.hb hbw5 hl0, hG.hp.below hbw5 hl1, bxBelow hG.hr hbw5 hl2, bxBelow hG.bm hbw5 (by omega), hG.ml.below hbw5 (by omega), hG.mks.same fun D hD hh => (hbw5.block D (hG.mks.lt hD)).trans hh, hB5⟩
      have hDs : ∀ D ∈ Ds, D < w5.heap.size := fun D hD => by have := hG.mks.lt hD; omega
      have hbsz : wr.heap.size + 1 ≤ w5.heap.size := by omega
      have Hq := Lib.hid (And.intro True.intro (And.intro hDs Hj.out.2.1.1))
      clear hDs hG hi4 h3 hb4 hb5 hbw4 hbw5
      gi_wp2_with (fail)
      refine range_pl (P := Tryz.prog) (gf := 89) rfl (enters_of Tryz.func89 (by kernel_rfl) rfl) (encs := encV) Prod.snd (n₀ := w.heap.size) (w0 := w5)
        (visits1_any w5 Bh Bp w.heap.size A n c ts (plOf s.1) hBh hBp hB5.size ((hx.below hB5 hB).more hB) (by have := hv.h5; have := Hn.out.1; omega) (fun i hi => hv.h12 i (by have := Hn.out.1; omega)) Hq.out.2.2) (Below.refl _ _) (by rintro k (rfl | rfl); exact hBh.lt; exact hBp.lt) hB5.size (fun _ => rfl)
        (fun pre X W => DbB w w5.heap.size bl bx Ds A n c p ll false X W ∧ StepAt W wr.heap.size (.slice A' m c') s.2 ∧ ∀ y ∈ pre, badVisit ll s.2 y = false)
        (fun c' vs X W => c' = .ret ∧ (∃ y ∈ vs, badVisit ll s.2 y = true) ∧ DbB w w5.heap.size bl bx Ds A n c p ll false X W)
        ?hI ?hIx ?h0 ?a1 ?assign ?body ?done ?stop
      case assign =>
        intro l x W b K hb hK
        gi_wp2
        rw [← hb]
        exact hK
      case hI =>
        rintro pre X X' W W' ⟨h1, h2, h3⟩ hst hgr
        have hX := h1.hX
        exact ⟨h1.st hst hgr (by omega) (by omega) (by omega) Hq.out.2.1, hst.same _ _ h2 (fun h => by have := hX _ h; omega) (.inl rfl), h3⟩
      case hIx =>
        rintro c' vs X X' W W' ⟨h1, h2, h3⟩ hst hgr
        exact ⟨h1, h2, h3.st hst hgr (by omega) (by omega) (by omega) Hq.out.2.1⟩
      case h0 => exact ⟨hG5, z5, fun y h => by cases h⟩
      case body =>
        rintro l pre x X b W ⟨hS, hst, hpre⟩ zb hbz hWz hXz hlen
        have zb : PlAt W b x.2 := zb
        have hX := hS.hX
        have Hx := Lib.hid (And.intro hXz (And.intro hX hpre))
        clear hXz hX hpre
        have hS0 : Boxed W.drew bx 122 (.map (some bl)) ∧ MapAt Int encI W.drew bl ll ∧ PlAt W.drew b x.2 ∧ StepAt W.drew wr.heap.size (.slice A' m c') s.2 := ⟨hS.bm, hS.ml.same rfl, zb, hst⟩
        gi_wp2_with (fail)
        refine region_held_round (fun W' => Boxed W' bx 122 (.map (some bl)) ∧ MapAt Int encI W' bl ll ∧ PlAt W' b x.2 ∧ StepAt W' wr.heap.size (.slice A' m c') s.2) (fun j => decide (j ≤ 4)) (by kernel_rfl) (by kernel_rfl) ?_
        intro KR hKR
        refine wpAnyHI_takeE (i := 0) (v := .map (some bl)) (some 28) rfl rfl (by kernel_rfl) (by kernel_rfl) (by kernel_rfl) (by kernel_rfl) (by kernel_rfl) (fun _ _ _ h => h) hS0 (.inl ⟨by kernel_rfl, fun W'' hS' => ?_⟩) ?_
        · obtain ⟨a1, a2, a3, a4⟩ := hS'
          have b1 := Boxed.cell a1
          have b2 := lookup_pl a2 122 2 0 Tryz.underlying122 zeroI64 x.2
          obtain ⟨b30, b31, b32, b33, b34, b35⟩ := a3.cells
          obtain ⟨b4, b5⟩ := a4.cells
          go_simp
        refine wpAnyHI_takeE (i := 1) (v := plv x.2) (some 29) rfl rfl (by kernel_rfl) (by kernel_rfl) (by kernel_rfl) (by kernel_rfl) (by kernel_rfl) (fun _ _ _ h => h) hS0 (.inl ⟨by kernel_rfl, fun W'' hS' => ?_⟩) ?_
        · obtain ⟨a1, a2, a3, a4⟩ := hS'
          have b1 := Boxed.cell a1
          have b2 := lookup_pl a2 122 2 0 Tryz.underlying122 zeroI64 x.2
          obtain ⟨b30, b31, b32, b33, b34, b35⟩ := a3.cells
          obtain ⟨b4, b5⟩ := a4.cells
          go_simp
        refine wpAnyHI_takeE (i := 2) (v := .int .i64 (mget 0 ll x.2)) (some 30) rfl rfl (by kernel_rfl) (by kernel_rfl) (by kernel_rfl) (by kernel_rfl) (by kernel_rfl) (fun _ _ _ h => h) hS0 (.inl ⟨by kernel_rfl, fun W'' hS' => ?_⟩) ?_
        · obtain ⟨a1, a2, a3, a4⟩ := hS'
          have b1 := Boxed.cell a1
          have b2 := lookup_pl a2 122 2 0 Tryz.underlying122 zeroI64 x.2
          obtain ⟨b30, b31, b32, b33, b34, b35⟩ := a3.cells
          obtain ⟨b4, b5⟩ := a4.cells
          go_simp
        refine wpAnyHI_takeE (i := 3) (v := .pointer (some ⟨wr.heap.size, 1, none⟩)) (some 31) rfl rfl (by kernel_rfl) (by kernel_rfl) (by kernel_rfl) (by kernel_rfl) (by kernel_rfl) (fun _ _ _ h => h) hS0 (.inl ⟨by kernel_rfl, fun W'' hS' => ?_⟩) ?_
        · obtain ⟨a1, a2, a3, a4⟩ := hS'
          have b1 := Boxed.cell a1
          have b2 := lookup_pl a2 122 2 0 Tryz.underlying122 zeroI64 x.2
          obtain ⟨b30, b31, b32, b33, b34, b35⟩ := a3.cells
          obtain ⟨b4, b5⟩ := a4.cells
          go_simp
        refine wpAnyHI_takeE (i := 4) (v := .int .i64 s.2) (some 32) rfl rfl (by kernel_rfl) (by kernel_rfl) (by kernel_rfl) (by kernel_rfl) (by kernel_rfl) (fun _ _ _ h => h) hS0 (.inl ⟨by kernel_rfl, fun W'' hS' => ?_⟩) ?_
        · obtain ⟨a1, a2, a3, a4⟩ := hS'
          have b1 := Boxed.cell a1
          have b2 := lookup_pl a2 122 2 0 Tryz.underlying122 zeroI64 x.2
          obtain ⟨b30, b31, b32, b33, b34, b35⟩ := a3.cells
          obtain ⟨b4, b5⟩ := a4.cells
          go_simp
        refine wpAnyHI_tail (k := 5) rfl rfl (by kernel_rfl) (by kernel_rfl) ?_
        simp only [List.drop_succ_cons, List.drop_zero]
        have hbd : Below W.heap.size W W.drew := ⟨rfl, rfl, rfl, Nat.le_refl _, fun _ _ => rfl⟩
        have hSd := hS.st (St.of_below hbd) (Grows.refl _ _) (by omega) (by omega) (by omega) Hq.out.2.1
        have hstd := hst.below hbd hst.lt
        have c9 := hSd.hr.cell
        have f9 := hSd.hr.frozen
        by_cases hbv : s.2 ≤ mget 0 ll x.2
        · have hyes : badVisit ll s.2 x = true := by unfold badVisit; simp [hbv]
          have Hy := Lib.hid hyes
          clear hyes
          gi_wp2_with (fail)
          have hwW := hS.bel.size
          have key : ∀ k, k ≠ w.heap.size + 2 → (W.setCell ⟨w.heap.size + 2, 0, none⟩ (.bool false)).heap[k]? = W.heap[k]? := fun k hk => Below.heap_setCell _ ⟨w.heap.size + 2, 0, none⟩ _ _ hk
          have hU : DbB w w5.heap.size bl bx Ds A n c p ll false X (W.setCell ⟨w.heap.size + 2, 0, none⟩ (.bool false)) := ⟨hS.hX, by simpa [World.setCell] using hS.hz, (key _ (by omega)).trans hS.hb, (key _ (by omega)).trans hS.hp, hS.hr.set _, (key _ (by omega)).trans hS.bm, hS.ml.setCell _ _ _, marks_set hS.mks hS.hr _, hS.bel.setCell (p := ⟨w.heap.size + 2, 0, none⟩) (show w.heap.size ≤ w.heap.size + 2 by omega) _⟩
          have hX2 : ¬ X (w.heap.size + 2) := fun h => by have := Hx.out.2.1 _ h; omega
          have hu1 : KeepsFrom w5.heap.size W (W.setCell ⟨w.heap.size + 2, 0, none⟩ (.bool false)) := (KeepsOthers.setCell _ _ _).from _
          have hu2 : Keep w.heap.size (fun k => k = Bh ∨ k = Bp) X W (W.setCell ⟨w.heap.size + 2, 0, none⟩ (.bool false)) := Keep.setCell (by omega) hX2 (by omega) _ _
          have hbu : Below (W.setCell ⟨w.heap.size + 2, 0, none⟩ (.bool false)).heap.size (W.setCell ⟨w.heap.size + 2, 0, none⟩ (.bool false)) (W.setCell ⟨w.heap.size + 2, 0, none⟩ (.bool false)).drew := ⟨rfl, rfl, rfl, Nat.le_refl _, fun _ _ => rfl⟩
          have hzu := hU.bel.size
          exact ⟨hu1.trans (KeepsFrom.of_below hbu), hu2.trans (Keep.of_below hbu hzu), rfl, ⟨x, by simp, Hy.out⟩, hU.st (St.of_below hbu) (Grows.refl _ _) (by omega) (by omega) (by omega) Hq.out.2.1⟩
        · have hno : badVisit ll s.2 x = false := by unfold badVisit; simp [hbv]
          have Hy := Lib.hid hno
          clear hno
          gi_wp2_with (fail)
          have hwW := hS.bel.size
          refine ⟨KeepsFrom.of_below hbd, Keep.of_below hbd (by omega), hSd, hstd, fun a b h => ?_⟩
          rcases List.mem_append.1 h with h | h
          · exact Hx.out.2.2 (a, b) h
          · obtain rfl := List.mem_singleton.1 h
            exact Hy.out
      case done =>
        rintro D vs X W hD hSx ⟨hS, hst, hpre⟩ hKD
        subst hSx
        have Hk := Lib.hid hpre
        clear hpre
        rw [← marks_cons]
        gi_wp2_with (fail)
        refine Handed.intro (k - (j + 1)) (by omega) (hIJ _ _ _ ⟨j + 1, _, D :: Ds, _, _, _, _, _, _, _, _, _, _, _, _, _, _, _, _, _, _, _, _, _, _, _, _, _, _, _, _, rfl, ⟨by simp, by omega, rfl⟩, ?_, hS.next (by omega) (by omega) hD hKD Hq.out.2.1⟩)
        intro s' hs' y hy
        rw [Hj.out.2.2] at hs'
        rcases List.mem_append.1 hs' with h | h
        · exact Ha.out s' h y hy
        · obtain rfl := List.mem_singleton.1 h
          exact Hk.out y hy
      case stop =>
        rintro D c' vs X W hD ⟨rest, hrest⟩ ⟨rfl, ⟨y, hy, hyb⟩, hS⟩ hKD
        have hno : doomedF ts p ss = false := by
          rw [Hll.out] at hyb
          exact doomed_no Hj.out.1 (by rw [← hrest]; exact List.mem_append_left _ hy) hyb
        have Hno := Lib.hid hno
        have hmk := MarksAt.cons hS.mks (by omega) hKD (fun hd => by have := Hq.out.2.1 D hd; omega)
        clear hno hyb hy hrest
        rw [← marks_cons]
        gi_wp2_with (fail)
        rw [Hno.out]
        exact doomed_leaves hS.hr hmk hS.bel (by simp)
    · obtain rfl : k = j := by omega
      have hnj : ¬ (k : Int) < (k : Int) := by omega
      have hlk := lookup_pl hG.ml 122 2 0 Tryz.underlying122 zeroI64 p
      gi_wp2_with (fail)
      have hv2 : (mget 0 ll p != 1099511627777) = doomedF ts p ss := by
        have hfull : ss.take k = ss := List.take_of_length_le (by rw [Hn.out.2.1]; exact Nat.le_refl _)
        have hall := Ha.out
        rw [hfull, Hll.out] at hall
        rw [doomed_end hall, ← Hll.out]
        by_cases h : mget 0 ll p = 1099511627777 <;> simp [h]
      rw [hv2]
      exact doomed_leaves (hG.hr.set _) (marks_set hG.mks hG.hr _) (hG.bel.setCell (p := ⟨w.heap.size + 2, 0, none⟩) (show w.heap.size ≤ w.heap.size + 2 by omega) _) (by simp)
end Go.Proofs.YthjgecblkagelaaGreat

/- CheckDoom. -/
namespace Go.Proofs.YthjgecblkagelaaGreat
open Go.RowKit Go.Shelf

attribute [local go_sem] Oper.semAt_some

def checkDoomF (ts xs : List Int) (ss : List (List Int × Int)) : Int :=
  if statedF ts xs ≠ 0 then statedF ts xs else if 1000 < ss.length then 6 else if ss.any (stepBad ts) then 3 else if doomedF ts (plOf xs) ss = true then 0 else 14

set_option maxRecDepth 100000 in
set_option maxHeartbeats 8000000 in
theorem CheckDoom_any (w : World) (B B2 B3 : Nat) (A A2 A3 : Option Addr) (n c m d k f : Nat) (ts xs : List Int) (ss : List (List Int × Int)) (hx : IntsAt w B A n ts) (hB : B ≤ w.heap.size) (hr : IntsAt w B2 A2 m xs) (hB2 : B2 ≤ w.heap.size) (hs : StepsAt w B3 A3 k ss) (hB3 : B3 ≤ w.heap.size) :
    Calls Tryz.prog 30 #[.agg #[.slice A n c], .slice A2 m d, .slice A3 k f] w fun e w' => e = .returned (.int .i64 (checkDoomF ts xs ss)) ∧ Below w.heap.size w w' := by
  have hb0 : Below w.heap.size w (w.alloc (.cells #[.slice A n c] 24)) := (Below.refl _ w).alloc (Nat.le_refl _) _
  have x0 := Boxed.new w 24 (.slice A n c)
  have hk9 := hs.2.1
  have Hn := Lib.hid (And.intro hx.len (And.intro hr.len hs.1))
  go_enter Tryz.func30, Tryz.ntmps30
  go_wp2_with (fail)
  refine (checkState_any _ B B2 A A2 n c m d ts xs (hx.below hb0 hB) (by have := hb0.size; omega) (hr.below hb0 hB2) (by have := hb0.size; omega)).mono ?_
  rintro e w2 ⟨rfl, hb⟩
  have hB2' := hb0.trans (hb.mono hb0.size)
  have y0 := bxBelow x0 hb x0.lt
  obtain ⟨r, hr0⟩ : ∃ r, r = statedF ts xs := ⟨_, rfl⟩
  rw [← hr0]
  have Hr := Lib.hid hr0
  clear hr0 hb hb0 x0
  by_cases h0 : r = 0
  · have Hr0 := Lib.hid (Hr.out.symm.trans h0)
    subst h0
    obtain ⟨hv, hl, hg⟩ := stated_valid Hr0.out
    have Hg := Lib.hid (And.intro hl hg)
    clear hl hg
    by_cases hk : 1000 < k
    · have hki : (1000 : Int) < (k : Int) := by omega
      go_wp2_with (fail)
      go_ret
      refine ⟨ret_int ?_, hB2'⟩
      unfold checkDoomF
      rw [if_neg (by rw [Hr0.out]; simp), if_pos (by rw [Hn.out.2.2]; exact hk)]
    · have hki : ¬ (1000 : Int) < (k : Int) := by omega
      go_wp2_with (fail)
      go_loopg [21] k (fun gk v21 wr => ∃ j : Nat, (j ≤ k ∧ gk = k - j ∧ v21 = .int .i64 (j : Int)) ∧ Boxed wr w.heap.size 24 (.slice A n c) ∧ Below w.heap.size w wr ∧ ∀ s ∈ ss.take j, stepBad ts s = false)
      case atStart => exact ⟨0, ⟨Nat.zero_le _, rfl, rfl⟩, y0, hB2', fun s h => by simp at h⟩
      case round =>
        clear y0 hB2'
        obtain ⟨j, ⟨hjk, rfl, rfl⟩, y0, hBr, hall⟩ := hrel
        have Ha := Lib.hid hall
        clear hall
        have c0 := y0.cell
        have hl0 := y0.lt
        by_cases hj : j < k
        · have hjj : IntKind.i64.wrap ((j : Int) + 1) = (j : Int) + 1 := by rw [IntKind.wrap_i64]; omega
          obtain ⟨b, off, rfl, hbB, hcs⟩ := (hs.below hBr hB3).2.2 (by omega)
          obtain ⟨s, hsj⟩ : ∃ s, ss[j]? = some s := ⟨_, List.getElem?_eq_getElem (by have := Hn.out.2.2; omega)⟩
          obtain ⟨A', m', c', h1, h2, h3⟩ := hcs j s hsj
          have hmem := List.mem_of_getElem? hsj
          have htk : ss.take (j + 1) = ss.take j ++ [s] := by
            obtain ⟨hlt, rfl⟩ := List.getElem?_eq_some_iff.1 hsj
            exact List.take_succ_eq_append_getElem hlt
          have Hj := Lib.hid (And.intro hmem htk)
          clear hsj hcs hmem htk
          have hwz := hBr.size
          go_wp2_with (fail)
          have hb4 : Below wr.heap.size wr (wr.alloc (.cells #[.slice A' m' c', .int .i64 s.2] 54)) := (Below.refl _ wr).alloc (Nat.le_refl _) _
          have y1 : StepAt (wr.alloc (.cells #[.slice A' m' c', .int .i64 s.2] 54)) wr.heap.size (.slice A' m' c') s.2 := World.alloc_heap_new wr _
          have hB4 := hBr.trans (hb4.mono hwz)
          have hz4 := hB4.size
          refine (checkState_any _ B B3 A A' n c m' c' ts s.1 (hx.below hB4 hB) (by omega) (h3.below hb4 (by omega)) (by omega)).mono ?_
          rintro e w5 ⟨rfl, hb5⟩
          have z1 := y1.below hb5 y1.lt
          obtain ⟨z10, z11⟩ := z1.cells
          have hb6 := hb4.trans (hb5.mono (by simp))
          have y5 := bxBelow y0 hb6 y0.lt
          have hB6 := hBr.trans (hb6.mono hwz)
          obtain ⟨sr, hsr⟩ : ∃ sr, sr = statedF ts s.1 := ⟨_, rfl⟩
          rw [← hsr]
          have Hsr := Lib.hid hsr
          clear hsr c0
          by_cases hs0 : sr = 0
          · have hs0' : (sr != 0) = false := by simp [hs0]
            have Hs0 := Lib.hid hs0
            clear hs0
            go_wp2_with (fail)
            have hbw5 : Below w5.heap.size w5 (w5.alloc (.cells #[.int .i64 s.2] 2)) := (Below.refl _ _).alloc (Nat.le_refl _) _
            refine (within64_any 1 1099511627776 _ (w5.heap.size + 1) _ 1 1 [s.2] (one_int _ _ _ _ (by omega) (by simp)) (by simp)).mono ?_
            rintro e w7 ⟨rfl, hb7⟩
            have hb8 := hb6.trans ((hbw5.trans (hb7.mono (by simp))).mono hb6.size)
            have y7 := bxBelow y0 hb8 hl0
            have hB7 := hBr.trans (hb8.mono hwz)
            obtain ⟨wb, hwb⟩ : ∃ wb, wb = withinF 1 1099511627776 [s.2] := ⟨_, rfl⟩
            rw [← hwb]
            rw [within_one] at hwb
            have Hwb := Lib.hid hwb
            clear hwb
            cases wb
            · go_wp2_with (fail)
              go_ret
              have hbad : stepBad ts s = true := by
                have := Hwb.out
                unfold stepBad
                simp at this ⊢
                omega
              refine ⟨ret_int ?_, hB7⟩
              unfold checkDoomF
              rw [if_neg (by rw [Hr0.out]; simp), if_neg (by rw [Hn.out.2.2]; exact hk), if_pos (List.any_eq_true.2 ⟨s, Hj.out.1, hbad⟩)]
            · go_wp2_with (fail)
              go_roundg (k - (j + 1))
              case measure => omega
              case rel =>
                refine ⟨j + 1, ⟨hj, rfl, by simp⟩, y7, hB7, fun s' hs' => ?_⟩
                rw [Hj.out.2] at hs'
                rcases List.mem_append.1 hs' with h | h
                · exact Ha.out s' h
                · obtain rfl := List.mem_singleton.1 h
                  have := Hwb.out
                  unfold stepBad
                  rw [← Hsr.out, Hs0.out]
                  simp at this ⊢
                  omega
          · have hs0' : (sr != 0) = true := by simp [hs0]
            have Hs0 := Lib.hid hs0
            clear hs0
            go_wp2_with (fail)
            go_ret
            have hbad : stepBad ts s = true := by
              unfold stepBad
              rw [← Hsr.out]
              simp [Hs0.out]
            refine ⟨ret_int ?_, hB6⟩
            unfold checkDoomF
            rw [if_neg (by rw [Hr0.out]; simp), if_neg (by rw [Hn.out.2.2]; exact hk), if_pos (List.any_eq_true.2 ⟨s, Hj.out.1, hbad⟩)]
        · obtain rfl : k = j := by omega
          have hnj : ¬ (k : Int) < (k : Int) := by omega
          go_wp2_with (fail)
          have hwz := hBr.size
          have hfull : ss.take k = ss := List.take_of_length_le (by rw [Hn.out.2.2]; exact Nat.le_refl _)
          have hgood : ∀ s ∈ ss, PlGood ts (plOf s.1) ∧ s.1.length ≤ 5 := by
            intro s hs
            have h1 := Ha.out s (by rw [hfull]; exact hs)
            obtain ⟨hv', hl', hg'⟩ := stated_valid (bad_no h1)
            exact ⟨hg', by rw [hl']; exact hv'.h5⟩
          have hany : ss.any (stepBad ts) = false := by
            rw [List.any_eq_false]
            intro s hs
            rw [Ha.out s (by rw [hfull]; exact hs)]
            simp
          have Hgo := Lib.hid (And.intro hgood hany)
          clear hgood hany hfull
          refine region_held_wp 3 (fun W' => Boxed W' w.heap.size 24 (.slice A n c)) (fun j => decide (j ≤ 3 ∧ j ≠ 2)) (by kernel_rfl) ?_
          intro KR hKR
          have hS0 : Boxed wr.drew w.heap.size 24 (.slice A n c) := bxDrew y0
          refine wpAnyHI_takeW (i := 2) (v := .slice A2 m d) (some 40) rfl rfl (by kernel_rfl) (by kernel_rfl) (by kernel_rfl) (by kernel_rfl) (fun _ _ _ h => h) (.inl ⟨by kernel_rfl, fun W' hS' => ?_⟩) ?_
          · go_simp
          refine wpAnyHI_takeW (i := 4) (v := .slice A3 k f) (some 42) rfl rfl (by kernel_rfl) (by kernel_rfl) (by kernel_rfl) (by kernel_rfl) (fun _ _ _ h => h) (.inl ⟨by kernel_rfl, fun W' hS' => ?_⟩) ?_
          · go_simp
          refine wpAnyHI_takeE (i := 0) (v := .agg #[.slice A n c]) (some 38) rfl rfl (by kernel_rfl) (by kernel_rfl) (by kernel_rfl) (by kernel_rfl) (by kernel_rfl) (fun _ _ _ h => h) hS0 (.inl ⟨by kernel_rfl, fun W'' hS' => ?_⟩) ?_
          · have b1 := Boxed.cell hS'
            go_simp
          refine wpAnyHI_takeE (i := 1) (v := .agg #[.slice A n c]) (some 39) rfl rfl (by kernel_rfl) (by kernel_rfl) (by kernel_rfl) (by kernel_rfl) (by kernel_rfl) (fun _ _ _ h => h) hS0 (.inl ⟨by kernel_rfl, fun W'' hS' => ?_⟩) ?_
          · have b1 := Boxed.cell hS'
            go_simp
          refine wpAnyHI_one (i := 3) rfl (by kernel_rfl) ?_
          intro K1 hK1
          go_simp
          have hxr : IntsAt wr.drew B2 A2 m xs := (show IntsAt wr B2 A2 m xs from hr.below hBr hB2)
          refine ⟨trivial, (callsIn_wide.2 (placeOf_any wr.drew B2 A2 m d xs hxr (by show B2 ≤ wr.heap.size; omega) (by have := Hg.out.1; have := Hn.out.2.1; have := hv.h5; omega))).mono ?_⟩
          rintro e w4 ⟨rfl, hb4⟩
          have hb4 : Below wr.heap.size wr w4 := ⟨hb4.os, hb4.tape, hb4.output, hb4.size, hb4.block⟩
          have y4 := bxBelow y0 hb4 hl0
          have hB4 := hBr.trans (hb4.mono hwz)
          have hz4 := hB4.size
          refine hK1 _ _ ⟨fun _ => y4, ?_⟩
          clear hK1 K1
          refine wpAnyHI_one (i := 5) rfl (by kernel_rfl) ?_
          intro K1 hK1
          go_simp
          refine ⟨trivial, (callsIn_wide.2 (doomedBy_any w4 B B3 A A3 n c k f ts ss (hx.below hB4 hB) (by omega) hv (hs.below hB4 hB3) (by omega) Hgo.out.1 (plOf xs))).mono ?_⟩
          rintro e w5 ⟨rfl, hb5⟩
          have hB5 := hB4.trans (hb5.mono hB4.size)
          refine hK1 _ _ ⟨fun h => (by cases h), ?_⟩
          clear hK1 K1
          refine wpAnyHI_tail (k := 6) rfl rfl (by kernel_rfl) (by kernel_rfl) ?_
          simp only [List.drop_succ_cons, List.drop_zero]
          have hcd : checkDoomF ts xs ss = if doomedF ts (plOf xs) ss = true then 0 else 14 := by
            unfold checkDoomF
            rw [if_neg (by rw [Hr0.out]; simp), if_neg (by rw [Hn.out.2.2]; exact hk), if_neg (by rw [Hgo.out.2]; simp)]
          obtain ⟨db, hdb⟩ : ∃ db, db = doomedF ts (plOf xs) ss := ⟨_, rfl⟩
          rw [← hdb] at hcd ⊢
          clear hdb
          have Hcd := Lib.hid hcd
          clear hcd
          cases db
          · gi_wp2_with (fail)
            go_wp2_with (fail)
            go_ret
            exact ⟨ret_int (by rw [Hcd.out]; rfl), hB5⟩
          · gi_wp2_with (fail)
            go_wp2_with (fail)
            go_ret
            exact ⟨ret_int (by rw [Hcd.out]; rfl), hB5⟩
  · have Hr0 := Lib.hid h0
    have hr' : (r != 0) = true := by simp [h0]
    go_wp2_with (fail)
    go_ret
    refine ⟨ret_int ?_, hB2'⟩
    unfold checkDoomF
    rw [if_pos (by rw [← Hr.out]; exact Hr0.out), ← Hr.out]
end Go.Proofs.YthjgecblkagelaaGreat

/- A region that draws, of operations that each yield a value, in whatever order: what holds of the values is kept. -/
namespace Go.Proofs.YthjgecblkagelaaGreat
open Go.RowKit Go.Shelf

section
variable {P : Program} {ops : Array Oper}
def dstOf (ops : Array Oper) (i : Nat) : Option Nat := (ops[i]?).bind fun o => o.dst
/-- Each has a slot of its own among ds, none a guard, and waits for earlier ones alone. -/
def yieldsB (ops : Array Oper) (ds : List Nat) : Bool := (List.range ops.size).all fun i => match ops[i]? with
  | none => false
  | some o => o.guard.isNone && decide (o.dst = ds[i]?) && o.after.all (fun e => !Region.binds .any e || decide (e.on < i))
def waitsFor (o : Oper) (j : Nat) : Bool := o.after.any fun e => Region.binds .any e && decide (e.on = j)

structure RInv (w0 : World) (t0 : Array Value) (ds : List Nat) (Pv : Nat → Value → World → Prop) (listed : Array Bool) (a : Act) (w : World) : Prop where
  bel : Below w0.heap.size w0 w
  df : a.defers = []
  sz : a.tmps.size = t0.size
  out : ∀ k, k ∉ ds → a.tmps[k]? = t0[k]?
  val : ∀ i d, ds[i]? = some d → listed.getD i false = true → Pv i (a.tmps.getD d undef) w

theorem nodup_get {ds : List Nat} (h : ds.Nodup) {i j d : Nat} (hi : ds[i]? = some d) (hj : ds[j]? = some d) : i = j := by
  obtain ⟨h1, e1⟩ := List.getElem?_eq_some_iff.1 hi
  obtain ⟨h2, e2⟩ := List.getElem?_eq_some_iff.1 hj
  rcases Nat.lt_trichotomy i j with hlt | h0 | hlt
  · exact absurd (e1.trans e2.symm) (List.pairwise_iff_getElem.1 h i j h1 h2 hlt)
  · exact h0
  · exact absurd (e2.trans e1.symm) (List.pairwise_iff_getElem.1 h j i h2 h1 hlt)
theorem RInv.put {w0 : World} {t0 : Array Value} {ds : List Nat} {Pv : Nat → Value → World → Prop} {listed : Array Bool} {a : Act} {w w' : World} (h : RInv w0 t0 ds Pv listed a w) (hnd : ds.Nodup) (hlt : ∀ d ∈ ds, d < t0.size) (hst : ∀ j v W W', Pv j v W → Below W.heap.size W W' → Pv j v W')
    {i d : Nat} (hd : ds[i]? = some d) {v : Value} (hb : Below w.heap.size w w') (hv : Pv i v w') : RInv w0 t0 ds Pv (listed.setIfInBounds i true) (a.put (some d) v) w' := by
  have hdm := List.mem_of_getElem? hd
  have hdl : d < a.tmps.size := by rw [h.sz]; exact hlt d hdm
  refine ⟨h.bel.trans (hb.mono h.bel.size), h.df, by simp [Act.put, h.sz], fun k hk => ?_, fun j dj hj hl => ?_⟩
  · have hne : d ≠ k := by rintro rfl; exact hk hdm
    have : (a.put (some d) v).tmps[k]? = a.tmps[k]? := by simp [Act.put, hne]
    rw [this]; exact h.out k hk
  · by_cases hji : j = i
    · subst hji
      rw [hd] at hj
      cases hj
      have : (a.put (some d) v).tmps.getD d undef = v := by simp [Act.put, hdl]
      rw [this]; exact hv
    · have hne : d ≠ dj := by rintro rfl; exact hji (nodup_get hnd hj hd)
      have : (a.put (some d) v).tmps.getD dj undef = a.tmps.getD dj undef := by simp [Act.put, hne]
      rw [this]
      refine hst _ _ _ _ (h.val j dj hj ?_) hb
      rwa [getD_set_ne false (Ne.symm hji)] at hl

theorem tmps_eq : ∀ (ds : List Nat) (t t0 : Array Value) (_ : t.size = t0.size) (_ : ∀ k, k ∉ ds → t[k]? = t0[k]?), t = ds.foldl (fun u d => u.setIfInBounds d (t.getD d undef)) t0
  | [], t, t0, hs, h => by
    apply Array.ext_getElem?
    intro k
    exact h k (by simp)
  | d :: ds, t, t0, hs, h => by
    rw [List.foldl_cons]
    refine tmps_eq ds t (t0.setIfInBounds d (t.getD d undef)) (by simp [hs]) fun k hk => ?_
    by_cases hkd : d = k
    · subst hkd
      rw [Array.getElem?_setIfInBounds]
      by_cases hl : d < t0.size
      · rw [if_pos rfl, if_pos hl]
        rw [Array.getElem?_eq_getElem (by omega)]
        simp [show d < t.size by omega]
      · rw [if_pos rfl, if_neg hl, Array.getElem?_eq_none (by omega)]
    · rw [Array.getElem?_setIfInBounds, if_neg hkd]
      exact h k (by simp; exact ⟨fun e => hkd e.symm, hk⟩)

theorem count_set : ∀ (l : List Bool) (i : Nat), l[i]? = some false → (l.set i true).count false + 1 = l.count false
  | [], i, h => by simp at h
  | b :: l, 0, h => by
    have : b = false := by simpa using h
    subst this
    simp
  | b :: l, i + 1, h => by
    have ih := count_set l i (by simpa using h)
    rw [List.set_cons_succ, List.count_cons, List.count_cons]
    omega
theorem wpAnyIn_inv {m : Nat} {md : Region.Mode} {Q : Exit → Act → World → Prop} (Inv : Array Bool → Act → World → Prop) (hstep : ∀ (listed : Array Bool) (i : Nat) (a : Act) (w : World), Inv listed a w → i ∈ Region.ready md ops listed → wpOpIn Fence.wide m P ops Q i (fun a' w' => Inv (listed.setIfInBounds i true) a' w') a w)
    (hend : ∀ listed a w, Region.ready md ops listed = [] → listed.size = ops.size → Inv listed a w → Q .normal a w) : ∀ (fuel : Nat) (listed : Array Bool) (a : Act) (w : World), listed.size = ops.size → listed.toList.count false ≤ fuel → Inv listed a w → wpAnyIn Fence.wide m P md ops Q fuel listed a w
  | 0, listed, a, w, hs, hc, h => by
    have hr : Region.ready md ops listed = [] := by
      rw [List.eq_nil_iff_forall_not_mem]
      intro i hi
      have h1 := (mem_ready.1 hi).1
      have h2 : listed.toList[i]? = some false := by
        rw [Array.getElem?_toList]
        cases h3 : listed[i]? with
        | none => simp [h3] at h1
        | some b => simp [h3] at h1; rw [h1]
      have h4 := List.count_pos_iff.2 (List.mem_of_getElem? h2)
      omega
    exact ⟨hr, hend listed a w hr hs h⟩
  | fuel + 1, listed, a, w, hs, hc, h => by
    refine ⟨fun hr => hend listed a w hr hs h, fun i hi => wpOpIn_mono (fun a' w' h' => wpAnyIn_inv Inv hstep hend fuel _ a' w' (by simpa using hs) ?_ h') (hstep listed i a w h hi)⟩
    have h1 := (mem_ready.1 hi).1
    have h2 : listed.toList[i]? = some false := by
      rw [Array.getElem?_toList]
      cases h3 : listed[i]? with
      | none => simp [h3] at h1
      | some b => simp [h3] at h1; rw [h1]
    have h5 := count_set _ _ h2
    rw [Array.toList_setIfInBounds]
    omega

/-- The law: each operation yields, in whatever world behind the region's beginning, a value of which Pv holds, out of what holds of those for which it waits. -/
theorem region_inv {m : Nat} {id : Nat} {Q : Exit → Act → World → Prop} {t0 : Array Value} {w : World} (ds : List Nat) (Pv : Nat → Value → World → Prop) (hm : P.follows .mixedOrders = true) (hy : yieldsB ops ds = true) (hl : decide (ds.length = ops.size) = true) (hnd : decide ds.Nodup = true) (hlt : ds.all (fun d => decide (d < t0.size)) = true)
    (hst : ∀ j v W W', Pv j v W → Below W.heap.size W W' → Pv j v W')
    (hstep : ∀ (i : Nat) (o : Oper), ops[i]? = some o → ∀ (a : Act) (w' : World), Below w.heap.size w w' → (∀ k, k ∉ ds → a.tmps.getD k undef = t0.getD k undef) → (∀ j d, waitsFor o j = true → ds[j]? = some d → Pv j (a.tmps.getD d undef) w') →
      ∀ K : Act → World → Prop, (∀ v w'', Below w'.heap.size w' w'' → Pv i v w'' → K (a.put o.dst v) w'') → o.wpIn Fence.wide m P a w' K (Exit.then (Q .normal) (fun _ _ _ => False)))
    (hend : ∀ (a : Act) (w' : World), Below w.heap.size w w' → (∀ i d, ds[i]? = some d → Pv i (a.tmps.getD d undef) w') → a = { tmps := ds.foldl (fun u d => u.setIfInBounds d (a.tmps.getD d undef)) t0, defers := [] } → Q .normal a w') : (Code.region id ops true).wpIn Fence.wide m P Q { tmps := t0, defers := [] } w := by
  have hl := of_decide_eq_true hl
  have hnd := of_decide_eq_true hnd
  have hlt : ∀ d ∈ ds, d < t0.size := fun d hd => of_decide_eq_true ((List.all_eq_true.1 hlt) d hd)
  have hop : ∀ i o, ops[i]? = some o → o.guard = none ∧ o.dst = ds[i]? ∧ ∀ e ∈ o.after, Region.binds .any e = true → e.on < i := by
    intro i o ho
    have h1 := (List.all_eq_true.1 hy) i (List.mem_range.2 (Array.getElem?_eq_some_iff.1 ho).1)
    rw [ho] at h1
    simp only [Bool.and_eq_true] at h1
    refine ⟨by simpa using h1.1.1, of_decide_eq_true h1.1.2, fun e he hb => ?_⟩
    have h2 := (Array.all_eq_true_iff_forall_mem.1 h1.2) e he
    simpa [hb] using h2
  have key := wpAnyIn_inv (P := P) (ops := ops) (m := m) (md := .any) (Q := Exit.then (Q .normal) (fun _ _ _ => False)) (RInv w t0 ds Pv) ?_ ?_ ops.size (Array.replicate ops.size false) { tmps := t0, defers := [] } w.drew (by simp) (by simp) ⟨⟨rfl, rfl, rfl, Nat.le_refl _, fun _ _ => rfl⟩, rfl, rfl, fun _ _ => rfl, fun i d _ h => by rw [getD_replicate_false] at h; cases h⟩
  · exact wpIn_mono (wpIn_region_any hm key) (fun e a' w' hq => by
      cases e with
      | normal => exact hq
      | exit id => exact hq.elim
      | goto l => exact hq.elim
      | ret => exact hq.elim
      | panic ch => exact hq.elim
      | outgrown => exact hq.elim)
  · intro listed i a w' hI hi
    obtain ⟨h0, o, ho, hall⟩ := mem_ready.1 hi
    obtain ⟨hg, hd, -⟩ := hop i o ho
    have hil : i < ds.length := by rw [hl]; exact (Array.getElem?_eq_some_iff.1 ho).1
    obtain ⟨d, hdi⟩ : ∃ d, ds[i]? = some d := ⟨_, List.getElem?_eq_getElem hil⟩
    refine wpOpIn_step ho fun K' hK' => ?_
    simp only [Region.wanted, hg, if_true]
    refine hstep i o ho a w' hI.bel (fun k hk => by simp [hI.out k hk]) (fun j dj hw hj => ?_) K' fun v w'' hb hv => ?_
    · obtain ⟨k, hk, he⟩ := Array.any_eq_true.1 hw
      rw [Bool.and_eq_true] at he
      refine hI.val j dj hj ?_
      have := hall _ (Array.getElem_mem hk) he.1
      rwa [of_decide_eq_true he.2] at this
    · have := hI.put hnd hlt hst hdi hb hv
      rw [hd, hdi]
      exact hK' _ _ this
  · intro listed a w' hr hs hI
    have hall : ∀ i, i < ops.size → listed.getD i false = true := by
      intro i
      induction i using Nat.strongRecOn with
      | ind i ih =>
        intro hi
        obtain ⟨o, ho⟩ : ∃ o, ops[i]? = some o := ⟨_, Array.getElem?_eq_getElem hi⟩
        cases hb : listed.getD i false with
        | true => rfl
        | false =>
          have : i ∈ Region.ready .any ops listed := mem_ready.2 ⟨by
            have hil : i < listed.size := by omega
            simpa [hil] using hb, o, ho, fun e he hbb => by
            have h2 := (hop i o ho).2.2 e he hbb
            exact ih e.on h2 (by omega)⟩
          rw [hr] at this
          cases this
    refine hend a w' hI.bel (fun i d hd => hI.val i d hd (hall i (by rw [← hl]; exact (List.getElem?_eq_some_iff.1 hd).1))) ?_
    obtain ⟨t, df⟩ := a
    have e1 : df = [] := hI.df
    have e2 := tmps_eq ds t t0 hI.sz hI.out
    subst e1
    dsimp only at e2 ⊢
    rw [← e2]
end
end Go.Proofs.YthjgecblkagelaaGreat

/- The examples of the chapter, evaluated. -/
namespace Go.Proofs.YthjgecblkagelaaGreat
open Go.RowKit Go.Shelf

def circC (ts : List Int) (m : List (Pl × Int)) (win N : Nat) (ps : List Pl) : List Int × Int := ps.foldl (fun s p => if 0 < p.get win then s else if 0 < mget 0 m p then circV s (loopV (loopN ts m p s.2 N)) else s) ([], 1000)
theorem circP_C {ts : List Int} {m : List (Pl × Int)} {win N : Nat} (hN : N ≤ 1001) (ps : List Pl) (h : (ps.all fun p => isEnd (loopN ts m p 1000 N)) = true) : circP ts m win ps = circC ts m win N ps := by
  have key : ∀ (ps pre : List Pl), (ps.all fun p => isEnd (loopN ts m p 1000 N)) = true → circP ts m win pre = circC ts m win N pre → circP ts m win (pre ++ ps) = circC ts m win N (pre ++ ps) := by
    intro ps
    induction ps with
    | nil => intro pre _ h; simpa using h
    | cons p ps ih =>
      intro pre h h0
      rw [List.all_cons, Bool.and_eq_true] at h
      have e : pre ++ p :: ps = (pre ++ [p]) ++ ps := by simp
      rw [e]
      refine ih (pre ++ [p]) h.2 ?_
      rw [circP_snoc]
      have e2 : circC ts m win N (pre ++ [p]) = (fun s p => if 0 < p.get win then s else if 0 < mget 0 m p then circV s (loopV (loopN ts m p s.2 N)) else s) (circC ts m win N pre) p := by simp [circC]
      rw [e2, ← h0]
      unfold circStep
      have hl := (circP_lim ts m win pre).1
      generalize circP ts m win pre = s at *
      have : loopE ts m p s.2 = loopV (loopN ts m p s.2 N) := by
        cases hk : loopN ts m p s.2 N with
        | inr r => exact (loopE_of hk hN).trans rfl
        | inl s0 =>
          have h2 := loopN_limit hl N s0 hk
          rw [h2] at h
          cases h.1
      rw [this]
  have := key ps [] h rfl
  simpa using this

theorem ev23 : Nat.ble (tabN [2, 3] 12).2.2.length 12 = true := by kernel_rfl
theorem ev236 : Nat.ble (tabN [2, 3, 6] 84).2.2.length 84 = true := by kernel_rfl
theorem ev11 : Nat.ble (tabN [1, 1] 4).2.2.length 4 = true := by kernel_rfl
attribute [local irreducible] tabN reachN
theorem ends23 : Ends [2, 3] ∧ tabE [2, 3] = tabN [2, 3] 12 := Ends.of (ts := [2, 3]) (N := 12) (Nat.le_of_ble_eq_true ev23) (Nat.le_of_ble_eq_true rfl)
theorem ends236 : Ends [2, 3, 6] ∧ tabE [2, 3, 6] = tabN [2, 3, 6] 84 := Ends.of (ts := [2, 3, 6]) (N := 84) (Nat.le_of_ble_eq_true ev236) (Nat.le_of_ble_eq_true rfl)
theorem ends11 : Ends [1, 1] ∧ tabE [1, 1] = tabN [1, 1] 4 := Ends.of (ts := [1, 1]) (N := 4) (Nat.le_of_ble_eq_true ev11) (Nat.le_of_ble_eq_true rfl)
theorem er236 : Nat.ble (reachN [2, 3, 6] (plOf [0, 0, 0]) 84).1.length 84 = true := by kernel_rfl
theorem rends236 : REnds [2, 3, 6] (plOf [0, 0, 0]) ∧ reachE [2, 3, 6] (plOf [0, 0, 0]) = reachN [2, 3, 6] (plOf [0, 0, 0]) 84 := REnds.of (ts := [2, 3, 6]) (N := 84) (Nat.le_of_ble_eq_true er236) (Nat.le_of_ble_eq_true rfl)
theorem el23 : (((statesL [2, 3]).map plOf).all fun p => isEnd (loopN [2, 3] (tabN [2, 3] 12).1 p 1000 13)) = true := by kernel_rfl
theorem el236 : (((statesL [2, 3, 6]).map plOf).all fun p => isEnd (loopN [2, 3, 6] (tabN [2, 3, 6] 84).1 p 1000 3)) = true := by kernel_rfl
theorem lends23 : LEnds [2, 3] (tabE [2, 3]).1 := by rw [ends23.2]; exact LEnds.of (by omega) el23
theorem lends236 : LEnds [2, 3, 6] (tabE [2, 3, 6]).1 := by rw [ends236.2]; exact LEnds.of (by omega) el236
theorem win23 : IsWin [2, 3] 1 := ⟨by decide, fun j hj => by
    have : j = 0 ∨ j = 1 := by simp at hj; omega
    rcases this with rfl | rfl <;> decide, fun j hj => by
    have : j = 0 := by omega
    subst this; decide⟩
theorem win236 : IsWin [2, 3, 6] 2 := ⟨by decide, fun j hj => by
    have : j = 0 ∨ j = 1 ∨ j = 2 := by simp at hj; omega
    rcases this with rfl | rfl | rfl <;> decide, fun j hj => by
    have : j = 0 ∨ j = 1 := by omega
    rcases this with rfl | rfl <;> decide⟩

theorem tu1 : turnR [2, 3] [1, 2] [0] 1 = ([2, 0], 2, 0) := by kernel_rfl
theorem tu2 : turnR [2, 3] [1, 2] [0, 1] 0 = ([0, 3], 2, 0) := by kernel_rfl
theorem tu3 : turnR [2, 3] [2, 2] [0] 0 = ([], 0, 17) := by kernel_rfl
theorem pl1 : playR [2, 3] [0, 0] [0, 1, 0] = ([0, 1], 3, 0) := by kernel_rfl
theorem pl2 : playR [2, 3] [0, 0] [0, 0, 0, 0] = ([], 3, 17) := by kernel_rfl
theorem cc1 : checkCircleF [2, 3] [0, 0, 1] = 0 := by kernel_rfl
theorem cc2 : checkCircleF [2, 3] [0, 1] = 0 := by kernel_rfl
theorem cc3 : checkCircleF [2, 3] [0] = 17 := by kernel_rfl
theorem cd1 : checkDoomF [1, 1] [0, 0] [([0, 1], 1), ([1, 0], 1), ([0, 0], 2)] = 0 := by kernel_rfl
theorem cd2 : checkDoomF [1, 1] [0, 0] [([0, 1], 1), ([0, 0], 2)] = 14 := by kernel_rfl
theorem ci1 : circleR [2, 3] 1 = ([0, 1], 0) := by
  unfold circleR
  rw [ends23.2, circP_C (N := 13) (by omega) _ el23]
  kernel_rfl
theorem rc1 : rcheckCircleF [2, 3] [0, 1] = 0 := by kernel_rfl
theorem ci2 : circleR [2, 3, 6] 2 = ([], 17) := by
  unfold circleR
  rw [ends236.2]
  kernel_rfl
theorem do1 : doomR [2, 3, 6] [0, 0, 0] = (stepsF (tabN [2, 3, 6] 84).2.1 (reachN [2, 3, 6] (plOf [0, 0, 0]) 84).1, 0) := by
  unfold doomR
  rw [ends236.2, rends236.2]
  kernel_rfl
theorem rd1 : rcheckDoomF [2, 3, 6] [0, 0, 0] (stepsF (tabN [2, 3, 6] 84).2.1 (reachN [2, 3, 6] (plOf [0, 0, 0]) 84).1) = 0 := by kernel_rfl
theorem ne1 : nextR [2, 3] [0, 2] = ([1], 0) := by unfold nextR; rw [ends23.2]; kernel_rfl
theorem ne2 : nextR [2, 3] [0, 0] = ([0, 1], 0) := by unfold nextR; rw [ends23.2]; kernel_rfl
theorem ne3 : nextR [2, 3] [1, 2] = ([], 17) := by unfold nextR; rw [ends23.2]; kernel_rfl
theorem wa1 : waitR [2, 3] [2, 2] = ([0, 1], 0) := by unfold waitR; rw [ends23.2]; kernel_rfl
theorem wa2 : waitR [2, 3] [2, 3] = ([], 17) := by unfold waitR; rw [ends23.2]; kernel_rfl
theorem wa3 : waitR [2, 3] [1, 2] = ([0], 0) := by unfold waitR; rw [ends23.2]; kernel_rfl
theorem wa4 : waitR [2, 3] [1, 1] = ([], 0) := by unfold waitR; rw [ends23.2]; kernel_rfl
theorem la1 : lastsR [2, 3, 6] [0, 0, 0] = ([2, 0, 1, 0, 1, 0, 2, 0], 0) := by unfold lastsR; rw [ends236.2]; kernel_rfl
theorem la2 : lastsR [2, 3] [1, 2] = ([0], 0) := by unfold lastsR; rw [ends23.2]; kernel_rfl
theorem la3 : lastsR [2, 3] [0, 0] = ([], 5) := by unfold lastsR; rw [ends23.2]; kernel_rfl
theorem co1 : countR [2, 3] = (5, 0) := by unfold countR; rw [ends23.2]; kernel_rfl
theorem co2 : countR [1, 1] = (0, 0) := by unfold countR; rw [ends11.2]; kernel_rfl
end Go.Proofs.YthjgecblkagelaaGreat

/- Works. -/
namespace Go.Proofs.YthjgecblkagelaaGreat
open Go.RowKit Go.Shelf

attribute [local go_sem] Oper.semAt_some

theorem ints_new (w : World) (xs : List Int) (h : xs.length ≤ 1000) : IntsAt (w.alloc (.cells (xs.map (Value.int .i64)).toArray 3)) (w.alloc (.cells (xs.map (Value.int .i64)).toArray 3)).heap.size (some ⟨w.heap.size, 0, none⟩) xs.length xs := by
  refine ⟨rfl, by omega, fun _ => ⟨w.heap.size, 0, rfl, by simp, fun j hj => ?_⟩⟩
  have := World.alloc_heap_new w (.cells (xs.map (Value.int .i64)).toArray 3)
  simp only [World.cell?, this]
  simp [hj]
theorem ListAt.below {W W' : World} {v : Value} {xs : List Int} (h : ListAt W v xs) (hb : Below W.heap.size W W') : ListAt W' v xs := by
  obtain ⟨A, m, c, e, hi⟩ := h
  exact ⟨A, m, c, e, (hi.below hb (Nat.le_refl _)).more hb.size⟩
theorem ints_up {W W' : World} {A : Option Addr} {n : Nat} {xs : List Int} (h : IntsAt W W.heap.size A n xs) (hb : Below W.heap.size W W') : IntsAt W' W'.heap.size A n xs := (h.below hb (Nat.le_refl _)).more hb.size
theorem ints_new2 (w : World) (b : Nat) (xs : List Int) (h : xs.length ≤ 1000) (hb : b = w.heap.size) : IntsAt (w.alloc (.cells (xs.map (Value.int .i64)).toArray 3)) (w.alloc (.cells (xs.map (Value.int .i64)).toArray 3)).heap.size (some ⟨b, 0, none⟩) xs.length xs := by
  subst hb
  exact ints_new w xs h
theorem steps_up {W W' : World} {A : Option Addr} {k : Nat} {ss : List (List Int × Int)} (h : StepsAt W W.heap.size A k ss) (hb : Below W.heap.size W W') : StepsAt W' W'.heap.size A k ss := by
  have h1 := h.below hb (Nat.le_refl _)
  refine ⟨h1.1, h1.2.1, fun h0 => ?_⟩
  obtain ⟨b, off, e, hB, hs⟩ := h1.2.2 h0
  refine ⟨b, off, e, Nat.lt_of_lt_of_le hB hb.size, fun j s hj => ?_⟩
  obtain ⟨A', m, c, k1, k2, k3⟩ := hs j s hj
  exact ⟨A', m, c, k1, k2, k3.more hb.size⟩
theorem put_fold (f : Nat → Value) : ∀ (ds : List Nat) (t : Array Value) (df : List Deferred), ({ tmps := ds.foldl (fun u d => u.setIfInBounds d (f d)) t, defers := df } : Act) = ds.foldl (fun b d => b.put (some d) (f d)) { tmps := t, defers := df }
  | [], _, _ => rfl
  | d :: ds, t, df => by
    rw [List.foldl_cons, List.foldl_cons]
    exact put_fold f ds _ df
/-- What a region of the examples yields. -/
inductive Want where
  | val (v : Value) | list (xs : List Int) | step (x : Int) (xs : List Int) | steps (ss : List (List Int × Int))
def Want.At : Want → Value → World → Prop
  | .val x, v, _ => v = x
  | .list xs, v, W => ListAt W v xs
  | .step x xs, v, W => ∃ s, v = .agg #[s, .int .i64 x] ∧ ListAt W s xs
  | .steps ss, v, W => ∃ A k c, v = .slice A k c ∧ StepsAt W W.heap.size A k ss
theorem Want.keep (d : Want) (v : Value) (W W' : World) (h : d.At v W) (hb : Below W.heap.size W W') : d.At v W' := by
  cases d with
  | val x => exact h
  | list xs => exact ListAt.below h hb
  | step x xs =>
    obtain ⟨s, e, h⟩ := h
    exact ⟨s, e, h.below hb⟩
  | steps ss =>
    obtain ⟨A, k, c, e, h⟩ := h
    exact ⟨A, k, c, e, steps_up h hb⟩
def wantAt (l : List Want) (i : Nat) (v : Value) (W : World) : Prop := (l[i]?.getD (.val undef)).At v W
theorem list_new (w : World) (xs : List Int) (h : xs.length ≤ 1000) : ListAt (w.alloc (.cells (xs.map (Value.int .i64)).toArray 3)) (.slice (some ⟨w.heap.size, 0, none⟩) xs.length xs.length) xs := ⟨_, _, _, rfl, ints_new w xs h⟩
theorem steps_new2 (w : World) (s1 s2 : Value) (x1 x2 : Int) (l1 l2 : List Int) (h1 : ListAt w s1 l1) (h2 : ListAt w s2 l2) :
    StepsAt (w.alloc (.cells #[s1, .int .i64 x1, s2, .int .i64 x2] 54)) (w.alloc (.cells #[s1, .int .i64 x1, s2, .int .i64 x2] 54)).heap.size (some ⟨w.heap.size, 0, none⟩) 2 [(l1, x1), (l2, x2)] := by
  have hb : Below w.heap.size w (w.alloc (.cells #[s1, .int .i64 x1, s2, .int .i64 x2] 54)) := (Below.refl _ _).alloc (Nat.le_refl _) _
  have hn := World.alloc_heap_new w (.cells #[s1, .int .i64 x1, s2, .int .i64 x2] 54)
  obtain ⟨A1, m1, c1, rfl, i1⟩ := h1
  obtain ⟨A2, m2, c2, rfl, i2⟩ := h2
  refine ⟨rfl, by decide, fun _ => ⟨w.heap.size, 0, rfl, by simp, fun j s hj => ?_⟩⟩
  have hc : ∀ k v, (#[Value.slice A1 m1 c1, .int .i64 x1, .slice A2 m2 c2, .int .i64 x2] : Array Value)[k]? = some v → (w.alloc (.cells #[Value.slice A1 m1 c1, .int .i64 x1, .slice A2 m2 c2, .int .i64 x2] 54)).cell? ⟨w.heap.size, k, none⟩ = some v := fun k v hk => by simp only [World.cell?, hn]; exact hk
  match j, hj with
  | 0, hj => cases hj; exact ⟨A1, m1, c1, hc 0 _ rfl, hc 1 _ rfl, (i1.below hb (Nat.le_refl _)).more hb.size⟩
  | 1, hj => cases hj; exact ⟨A2, m2, c2, hc 2 _ rfl, hc 3 _ rfl, (i2.below hb (Nat.le_refl _)).more hb.size⟩
  | j + 2, hj => simp at hj
theorem steps_new3 (w : World) (s1 s2 s3 : Value) (x1 x2 x3 : Int) (l1 l2 l3 : List Int) (h1 : ListAt w s1 l1) (h2 : ListAt w s2 l2) (h3 : ListAt w s3 l3) :
    StepsAt (w.alloc (.cells #[s1, .int .i64 x1, s2, .int .i64 x2, s3, .int .i64 x3] 54)) (w.alloc (.cells #[s1, .int .i64 x1, s2, .int .i64 x2, s3, .int .i64 x3] 54)).heap.size (some ⟨w.heap.size, 0, none⟩) 3 [(l1, x1), (l2, x2), (l3, x3)] := by
  have hb : Below w.heap.size w (w.alloc (.cells #[s1, .int .i64 x1, s2, .int .i64 x2, s3, .int .i64 x3] 54)) := (Below.refl _ _).alloc (Nat.le_refl _) _
  have hn := World.alloc_heap_new w (.cells #[s1, .int .i64 x1, s2, .int .i64 x2, s3, .int .i64 x3] 54)
  obtain ⟨A1, m1, c1, rfl, i1⟩ := h1
  obtain ⟨A2, m2, c2, rfl, i2⟩ := h2
  obtain ⟨A3, m3, c3, rfl, i3⟩ := h3
  refine ⟨rfl, by decide, fun _ => ⟨w.heap.size, 0, rfl, by simp, fun j s hj => ?_⟩⟩
  have hc : ∀ k v, (#[Value.slice A1 m1 c1, .int .i64 x1, .slice A2 m2 c2, .int .i64 x2, .slice A3 m3 c3, .int .i64 x3] : Array Value)[k]? = some v → (w.alloc (.cells #[Value.slice A1 m1 c1, .int .i64 x1, .slice A2 m2 c2, .int .i64 x2, .slice A3 m3 c3, .int .i64 x3] 54)).cell? ⟨w.heap.size, k, none⟩ = some v := fun k v hk => by simp only [World.cell?, hn]; exact hk
  match j, hj with
  | 0, hj => cases hj; exact ⟨A1, m1, c1, hc 0 _ rfl, hc 1 _ rfl, (i1.below hb (Nat.le_refl _)).more hb.size⟩
  | 1, hj => cases hj; exact ⟨A2, m2, c2, hc 2 _ rfl, hc 3 _ rfl, (i2.below hb (Nat.le_refl _)).more hb.size⟩
  | 2, hj => cases hj; exact ⟨A3, m3, c3, hc 4 _ rfl, hc 5 _ rfl, (i3.below hb (Nat.le_refl _)).more hb.size⟩
  | j + 3, hj => simp at hj
/-- The halls of the examples. -/
structure HallsAt (w W : World) (p1 p2 p3 b1 b2 b3 : Nat) : Prop where
  bel : Below w.heap.size w W
  h1 : Boxed W p1 24 (.slice (some ⟨b1, 0, none⟩) 2 2)
  h2 : Boxed W p2 24 (.slice (some ⟨b2, 0, none⟩) 3 3)
  h3 : Boxed W p3 24 (.slice (some ⟨b3, 0, none⟩) 2 2)
  i1 : IntsAt W W.heap.size (some ⟨b1, 0, none⟩) 2 [2, 3]
  i2 : IntsAt W W.heap.size (some ⟨b2, 0, none⟩) 3 [2, 3, 6]
  i3 : IntsAt W W.heap.size (some ⟨b3, 0, none⟩) 2 [1, 1]
theorem HallsAt.below {w W W' : World} {p1 p2 p3 b1 b2 b3 : Nat} (h : HallsAt w W p1 p2 p3 b1 b2 b3) (hb : Below W.heap.size W W') : HallsAt w W' p1 p2 p3 b1 b2 b3 :=
  ⟨h.bel.trans (hb.mono h.bel.size), bxBelow h.h1 hb h.h1.lt, bxBelow h.h2 hb h.h2.lt, bxBelow h.h3 hb h.h3.lt, ints_up h.i1 hb, ints_up h.i2 hb, ints_up h.i3 hb⟩

end Go.Proofs.YthjgecblkagelaaGreat
