/- lag: CheckAdded, Seen. -/
import Derived.Test.YtjidllaaokdjhaaLU
namespace Go.Proofs.Ytjidllaaokdjhaa
open Go.RowKit Go.Shelf

attribute [local go_sem] Oper.semAt_some

def checkAddedR (cs xs ys : List Int) : Int := if curveF cs ≠ 0 then curveF cs else if tallyE xs ys ≠ 0 then tallyE xs ys else if reachF (totF ys) (addL (totF xs) cs) = false then 18 else 0
set_option maxRecDepth 100000 in
set_option maxHeartbeats 8000000 in
theorem CheckAdded_any (w : World) (B B2 B3 : Nat) (A A2 A3 : Option Addr) (n c m c2 l c3 : Nat) (xs ys zs : List Int) (hx : IntsAt w B A n xs) (hB : B ≤ w.heap.size) (hy : IntsAt w B2 A2 m ys) (hB2 : B2 ≤ w.heap.size) (hz : IntsAt w B3 A3 l zs) (hB3 : B3 ≤ w.heap.size) :
    Calls Try.prog 38 #[.slice A n c, .slice A2 m c2, .slice A3 l c3] w fun e w' => e = .returned (.int .i64 (checkAddedR xs ys zs)) ∧ Below w.heap.size w w' := by
  have hm := hx.small
  go_enter Try.func38, Try.ntmps38
  go_wp2_with (fail)
  refine (checkCurve_any w B A n c xs hx hB).mono ?_
  rintro e w1 ⟨rfl, hb1⟩
  obtain ⟨r, hr⟩ : ∃ r, r = curveF xs := ⟨_, rfl⟩
  rw [← hr]
  by_cases h0 : r = 0
  case neg =>
    have hne : (r != 0) = true := by rw [bne_iff_ne]; exact h0
    have Hr := Lib.hid (And.intro hr h0)
    clear hr h0
    go_wp2_with (fail)
    refine bodyPost_ret (results_tmp rfl _ _ _) rfl ?_
    exact ⟨ret_int (by unfold checkAddedR; rw [if_pos (by rw [← Hr.out.1]; exact Hr.out.2), Hr.out.1]), hb1⟩
  case pos =>
    subst h0
    have Hc := Lib.hid hr.symm
    clear hr
    have hz1 := hb1.size
    go_wp2_with (fail)
    refine (tallyOf_any w1 B2 B3 A2 A3 m c2 l c3 ys zs (hy.below hb1 hB2) (by omega) (hz.below hb1 hB3) (by omega)).mono ?_
    rintro e w2 ⟨hT, hb2⟩
    have hb3 := hb1.trans (hb2.mono hz1)
    have hz3 := hb3.size
    obtain ⟨te, hte⟩ : ∃ te, te = tallyE ys zs := ⟨_, rfl⟩
    rcases hT with ⟨h1, rfl⟩ | ⟨h1, g1, g2, hg1, hg2, rfl, q1, q2⟩
    · rw [← hte] at h1 ⊢
      have hne : (te != 0) = true := by rw [bne_iff_ne]; exact h1
      have Ht := Lib.hid (And.intro hte h1)
      have hb4 : Below w.heap.size w (w2.alloc (.cells #[.slice none 0 0, .slice none 0 0] 96)) := hb3.alloc hz3 _
      clear hte h1 hb1 hb2 hb3
      go_wp2_with (fail)
      refine bodyPost_ret (results_tmp rfl _ _ _) rfl ?_
      exact ⟨ret_int (by unfold checkAddedR; rw [if_neg (by rw [Hc.out]; simp), if_pos (by rw [← Ht.out.1]; exact Ht.out.2), Ht.out.1]), hb4⟩
    · obtain ⟨o1, o2, o3, -⟩ := tally_zero h1
      have Ho := Lib.hid (And.intro h1 (And.intro o1 (And.intro o2 o3)))
      have hl60 : ys.length ≤ 60 := o1.1
      obtain ⟨N, hN⟩ : ∃ N, N = ys.length + 1 := ⟨_, rfl⟩
      obtain ⟨V, hV⟩ : ∃ V, V = w2.alloc (.cells #[.slice (some ⟨g1, 0, none⟩) N N, .slice (some ⟨g2, 0, none⟩) N N] 96) := ⟨_, rfl⟩
      have hb4 : Below w.heap.size w V := by rw [hV]; exact hb3.alloc hz3 _
      have t7 : TalAt V w2.heap.size (some ⟨g1, 0, none⟩) (some ⟨g2, 0, none⟩) N N N N := by rw [hV]; exact TalAt.new w2 _ _ _ _ _ _
      have p1 : RowZ V g1 (totF ys) := by rw [hV]; exact q1.alloc _
      have p2 : RowZ V g2 (totF zs) := by rw [hV]; exact q2.alloc _
      have i1 := p1.ints (n := N) (by rw [totF_len, hN]) (by omega)
      have i2 := p2.ints (n := N) (by rw [totF_len, hN, o3]) (by omega)
      have HN := Lib.hid hN
      rw [← hN]
      have hN61 : N ≤ 61 := by omega
      clear h1 o1 o2 o3 q1 q2 hte hb1 hb2 hb3 hN hl60
      go_wp2_with (fail)
      rw [← hV]
      clear hV
      obtain ⟨m0, m1⟩ := t7.cells
      have l7 := t7.lt
      have d0 : ∀ W, Below V.heap.size V.drew W → W.cell? ⟨w2.heap.size, 0, none⟩ = some (.slice (some ⟨g1, 0, none⟩) N N) := fun W h => (h.cell (p := ⟨w2.heap.size, 0, none⟩) l7).trans m0
      have d1 : ∀ W, Below V.heap.size V.drew W → W.cell? ⟨w2.heap.size, 1, none⟩ = some (.slice (some ⟨g2, 0, none⟩) N N) := fun W h => (h.cell (p := ⟨w2.heap.size, 1, none⟩) l7).trans m1
      refine region_held_wp 1 (fun W' => Below V.heap.size V.drew W') (fun j => decide (j = 1) || decide (j = 5)) (by kernel_rfl) ?_
      intro KR hKR
      have hS : Below V.heap.size V.drew V.drew := Below.refl _ _
      refine wpAnyHI_takeW (i := 0) (v := .pointer (some ⟨w2.heap.size, 1, none⟩)) (some 24) rfl rfl (by kernel_rfl) (by kernel_rfl) (by kernel_rfl) (by kernel_rfl) (fun _ _ _ h => h) (.inl ⟨by kernel_rfl, fun W' hS' => ?_⟩) ?_
      · go_simp
      refine wpAnyHI_takeW (i := 2) (v := .slice A n c) (some 26) rfl rfl (by kernel_rfl) (by kernel_rfl) (by kernel_rfl) (by kernel_rfl) (fun _ _ _ h => h) (.inl ⟨by kernel_rfl, fun W' hS' => ?_⟩) ?_
      · go_simp
      refine wpAnyHI_takeW (i := 3) (v := .pointer (some ⟨w2.heap.size, 0, none⟩)) (some 27) rfl rfl (by kernel_rfl) (by kernel_rfl) (by kernel_rfl) (by kernel_rfl) (fun _ _ _ h => h) (.inl ⟨by kernel_rfl, fun W' hS' => ?_⟩) ?_
      · go_simp
      refine wpAnyHI_takeE (i := 4) (v := .slice (some ⟨g1, 0, none⟩) N N) (some 28) rfl rfl (by kernel_rfl) (by kernel_rfl) (by kernel_rfl) (by kernel_rfl) (by kernel_rfl) (fun _ _ _ h => h) hS (.inl ⟨by kernel_rfl, fun W' hS' => ?_⟩) ?_
      · have q := d0 W' hS'; go_simp
      refine wpAnyHI_takeE (i := 1) (v := .slice (some ⟨g2, 0, none⟩) N N) (some 25) rfl rfl (by kernel_rfl) (by kernel_rfl) (by kernel_rfl) (by kernel_rfl) (by kernel_rfl) (fun _ _ _ h => h) hS (.inl ⟨by kernel_rfl, fun W' hS' => ?_⟩) ?_
      · have q := d1 W' hS'; go_simp
      refine wpAnyHI_one (i := 5) rfl (by kernel_rfl) ?_
      intro K1 hK1
      go_simp
      have hbd : Below w.heap.size w V.drew := hb4.trans (below_drew V)
      have hzd : w.heap.size ≤ V.drew.heap.size := hbd.size
      refine ⟨trivial, (callsIn_wide.2 (added_any V.drew V.heap.size B (some ⟨g1, 0, none⟩) A N N n c (totF ys) xs i1 (hx.below hbd hB) (Nat.le_refl _) (by omega) (nums_of Hc.out) (by omega) (fun j hj => tot_bound Ho.out.2.1 j (by have := HN.out; omega)))).mono ?_⟩
      rintro e w3 ⟨g3, hg3, rfl, hr3, hb5⟩
      refine hK1 _ _ ⟨fun _ => hb5, ?_⟩
      clear hK1 K1
      have i2' : IntsAt w3 V.heap.size (some ⟨g2, 0, none⟩) N (totF zs) := IntsAt.below (w := V.drew) i2 hb5 (Nat.le_refl _)
      have i3 := hr3.ints (n := N) (by rw [addL_len, totF_len, HN.out]) (by omega)
      have hb6 := hbd.trans (hb5.mono hzd)
      clear hb5 hr3 hS d0 d1 m0 m1 hbd i1 i2 t7 p1 p2 hb4
      refine wpAnyHI_one (i := 6) rfl (by kernel_rfl) ?_
      intro K1 hK1
      go_simp
      refine ⟨trivial, (callsIn_wide.2 (reach_any w3 V.heap.size w3.heap.size (some ⟨g2, 0, none⟩) (some ⟨g3, 0, none⟩) N N N N (totF zs) (addL (totF ys) xs) i2' i3 (Nat.le_refl _))).mono ?_⟩
      rintro e w4 ⟨rfl, rfl⟩
      refine hK1 _ _ ⟨fun h => absurd h (by simp), ?_⟩
      clear hK1 K1
      obtain ⟨rb, hrb⟩ : ∃ rb, rb = reachF (totF zs) (addL (totF ys) xs) := ⟨_, rfl⟩
      rw [← hrb]
      have Hrb := Lib.hid hrb
      clear hrb i3 i2'
      refine wpAnyHI_one (i := 7) rfl (by kernel_rfl) ?_
      intro K1 hK1
      go_simp
      refine hK1 _ _ ⟨fun h => absurd h (by simp), ?_⟩
      clear hK1 K1
      refine wpAnyHI_end (by kernel_rfl) ?_
      show KR _ _
      go_simp
      refine hKR _ _ ?_
      have hce : checkAddedR xs ys zs = if rb = false then 18 else 0 := by unfold checkAddedR; rw [if_neg (by rw [Hc.out]; simp), if_neg (by rw [Ho.out.1]; simp), ← Hrb.out]
      have He := Lib.hid hce
      clear hce
      cases rb with
      | false =>
        go_wp2_with (fail)
        refine bodyPost_ret (results_tmp rfl _ _ _) rfl ?_
        exact ⟨ret_int (by rw [He.out]; rfl), hb6⟩
      | true =>
        go_wp2_with (fail)
        refine bodyPost_ret (results_tmp rfl _ _ _) rfl ?_
        exact ⟨ret_int (by rw [He.out]; rfl), hb6⟩
theorem Seen_results (W : World) (tmps : Array Value) (a b c : Value) (h4 : tmps.getD 4 undef = a) (h5 : tmps.getD 5 undef = b) (h6 : tmps.getD 6 undef = c) :
    (results Try.f36 tmps).run Try.prog W = .ok (.tuple #[a, b, c]) W := by
  simp only [Array.getD_eq_getD_getElem?] at h4 h5 h6
  simp [results, Try.results36, go_sem, h4, h5, h6]
def waitF (ts os : List Int) (k : Nat) : Int := ts[k]?.getD 0 - os[k]?.getD 0
def seenR (xs ys : List Int) : Int × Int × Int := if tallyE xs ys ≠ 0 then (0, 0, tallyE xs ys) else if 0 < waitF (totF xs) (totF ys) xs.length then (0, 0, 18) else
  ((bestO (fun p : Part 0 xs.length => waitF (totF xs) (totF ys) p.1) gtI (partsS 0 xs.length)).getD 0, (bestO (fun p : Part 0 xs.length => lateF (totF xs) (totF ys) p.1) gtI (partsS 0 xs.length)).getD 0, 0)
set_option maxRecDepth 100000 in
set_option maxHeartbeats 8000000 in
theorem Seen_any (w : World) (B2 B3 : Nat) (A2 A3 : Option Addr) (m c2 l c3 : Nat) (ys zs : List Int) (hy : IntsAt w B2 A2 m ys) (hB2 : B2 ≤ w.heap.size) (hz : IntsAt w B3 A3 l zs) (hB3 : B3 ≤ w.heap.size) :
    Calls Try.prog 36 #[.slice A2 m c2, .slice A3 l c3] w fun e w' => e = .returned (.tuple #[.int .i64 (seenR ys zs).1, .int .i64 (seenR ys zs).2.1, .int .i64 (seenR ys zs).2.2]) ∧ Below w.heap.size w w' := by
  have hm := hy.small
  go_enter Try.func36, Try.ntmps36
  go_wp2_with (fail)
  refine (tallyOf_any w B2 B3 A2 A3 m c2 l c3 ys zs hy hB2 hz hB3).mono ?_
  rintro e w2 ⟨hT, hb3⟩
  have hz3 := hb3.size
  obtain ⟨te, hte⟩ : ∃ te, te = tallyE ys zs := ⟨_, rfl⟩
  rcases hT with ⟨h1, rfl⟩ | ⟨h1, g1, g2, hg1, hg2, rfl, q1, q2⟩
  · rw [← hte] at h1 ⊢
    have hne : (te != 0) = true := by rw [bne_iff_ne]; exact h1
    have hsr : seenR ys zs = (0, 0, te) := by unfold seenR; rw [if_pos (by rw [← hte]; exact h1), hte]
    have Ht := Lib.hid hsr
    have hb4 : Below w.heap.size w (w2.alloc (.cells #[.slice none 0 0, .slice none 0 0] 96)) := hb3.alloc hz3 _
    clear hte h1 hb3 hsr
    go_wp2_with (fail)
    refine bodyPost_ret (v := .tuple #[.int .i64 0, .int .i64 0, .int .i64 te]) (Seen_results _ _ _ _ _ (by simp) (by simp) (by simp)) rfl ?_
    exact ⟨by rw [Ht.out], hb4⟩
  · obtain ⟨o1, o2, o3, -⟩ := tally_zero h1
    have Ho := Lib.hid (And.intro h1 (And.intro o1 (And.intro o2 o3)))
    have hl60 : ys.length ≤ 60 := o1.1
    obtain ⟨N, hN⟩ : ∃ N, N = ys.length + 1 := ⟨_, rfl⟩
    obtain ⟨V, hV⟩ : ∃ V, V = w2.alloc (.cells #[.slice (some ⟨g1, 0, none⟩) N N, .slice (some ⟨g2, 0, none⟩) N N] 96) := ⟨_, rfl⟩
    have hb4 : Below w.heap.size w V := by rw [hV]; exact hb3.alloc hz3 _
    have t7 : TalAt V w2.heap.size (some ⟨g1, 0, none⟩) (some ⟨g2, 0, none⟩) N N N N := by rw [hV]; exact TalAt.new w2 _ _ _ _ _ _
    have p1 : RowZ V g1 (totF ys) := by rw [hV]; exact q1.alloc _
    have p2 : RowZ V g2 (totF zs) := by rw [hV]; exact q2.alloc _
    have i1 := p1.ints (n := N) (by rw [totF_len, hN]) (by omega)
    have i2 := p2.ints (n := N) (by rw [totF_len, hN, o3]) (by omega)
    have hyl := hy.len
    have HN := Lib.hid (And.intro hN hyl)
    have hmN : m + 1 ≤ N ∧ N ≤ m + 1 := by omega
    rw [← hN]
    have hN61 : N ≤ 61 := by omega
    obtain ⟨m0, m1⟩ := t7.cells
    have l7 := t7.lt
    have hwb : ∀ k, k < N → -1000000000 ≤ (totF ys)[k]?.getD 0 - (totF zs)[k]?.getD 0 ∧ (totF ys)[k]?.getD 0 - (totF zs)[k]?.getD 0 ≤ 1000000000 := fun k hk => by
      have a := tot_bound o1 k (by omega)
      have b := tot_bound o2 k (by omega)
      omega
    have Hwb := Lib.hid hwb
    clear h1 o1 o2 o3 q1 q2 hte hb3 hN hl60 hyl hwb p1 p2 t7
    have hzV := hb4.size
    go_wp2_with (fail)
    rw [← hV]
    clear hV
    go_wp2_with (fail)
    refine (waiting_any V V.heap.size V.heap.size (some ⟨g1, 0, none⟩) (some ⟨g2, 0, none⟩) N N N N m (totF ys) (totF zs) i1 i2 (Nat.le_refl _) (Nat.le_refl _) (by omega) (by omega) (by omega) (by omega) (Hwb.out m (by omega))).mono ?_
    rintro e w3 ⟨rfl, hb5⟩
    have hb6 := hb4.trans (hb5.mono hzV)
    have j1 := i1.below hb5 (Nat.le_refl _)
    have j2 := i2.below hb5 (Nat.le_refl _)
    have n0 := (hb5.cell (p := ⟨w2.heap.size, 0, none⟩) l7).trans m0
    have n1 := (hb5.cell (p := ⟨w2.heap.size, 1, none⟩) l7).trans m1
    have hz5 := hb5.size
    have l7' : w2.heap.size < w3.heap.size := by omega
    obtain ⟨x, hxe⟩ : ∃ x, x = (totF ys)[m]?.getD 0 - (totF zs)[m]?.getD 0 := ⟨_, rfl⟩
    rw [← hxe]
    unfold encI
    clear i1 i2 m0 m1 hb5 hb4
    by_cases hx0 : 0 < x
    case pos =>
      have hsr : seenR ys zs = (0, 0, 18) := by unfold seenR waitF; rw [if_neg (by rw [Ho.out.1]; simp), if_pos (by rw [HN.out.2, ← hxe]; exact hx0)]
      have Hs := Lib.hid hsr
      clear hsr hxe
      go_wp2_with (fail)
      refine bodyPost_ret (v := .tuple #[.int .i64 0, .int .i64 0, .int .i64 18]) (Seen_results _ _ _ _ _ (by simp) (by simp) (by simp)) rfl ?_
      exact ⟨by rw [Hs.out], hb6⟩
    case neg =>
      have hsr : seenR ys zs = ((bestO (fun p : Part 0 m => waitF (totF ys) (totF zs) p.1) gtI (partsS 0 m)).getD 0, (bestO (fun p : Part 0 m => lateF (totF ys) (totF zs) p.1) gtI (partsS 0 m)).getD 0, 0) := by
        unfold seenR
        rw [if_neg (by rw [Ho.out.1]; simp), if_neg (by unfold waitF; rw [HN.out.2, ← hxe]; exact hx0)]
        rw [HN.out.2]
      have Hs := Lib.hid hsr
      clear hsr hxe
      go_wp2_with (fail)
      refine (between_box 0 (m : Int) w3).mono ?_
      rintro e w4 ⟨bl, bh, rfl, hbl, hbh, hb7⟩
      have hz6 := hb6.size
      have hb8 := hb6.trans (hb7.mono hz6)
      have k1 := j1.below hb7 (by omega)
      have k2 := j2.below hb7 (by omega)
      have r0 := (hb7.cell (p := ⟨w2.heap.size, 0, none⟩) l7').trans n0
      have r1 := (hb7.cell (p := ⟨w2.heap.size, 1, none⟩) l7').trans n1
      have hz7 := hb7.size
      have l8 : w2.heap.size < w4.heap.size := by omega
      clear j1 j2 n0 n1 hb7 hb6
      have d0 : ∀ W, Below w4.heap.size w4.drew W → W.cell? ⟨w2.heap.size, 0, none⟩ = some (.slice (some ⟨g1, 0, none⟩) N N) := fun W h => (h.cell (p := ⟨w2.heap.size, 0, none⟩) l8).trans r0
      have d1 : ∀ W, Below w4.heap.size w4.drew W → W.cell? ⟨w2.heap.size, 1, none⟩ = some (.slice (some ⟨g2, 0, none⟩) N N) := fun W h => (h.cell (p := ⟨w2.heap.size, 1, none⟩) l8).trans r1
      have hval : ∀ W, Below w4.heap.size w4.drew W → ValFn W 78 #[talV (some ⟨g1, 0, none⟩) (some ⟨g2, 0, none⟩) N N N N] #[] (fun x : Part 0 m => encI (x.1 : Int)) encI (fun p => waitF (totF ys) (totF zs) p.1) := fun W hW => by
        refine ⟨enters_of Try.func78 (by kernel_rfl) rfl, fun W' x hW' => ?_⟩
        have hmx := parts_mem.1 x.2
        have hs1 : w4.heap.size ≤ W.heap.size := hW.size
        have hs2 := hW'.size
        exact waiting_any W' V.heap.size V.heap.size (some ⟨g1, 0, none⟩) (some ⟨g2, 0, none⟩) N N N N x.1 (totF ys) (totF zs) (IntsAt.below (IntsAt.below (w := w4.drew) k1 hW (by omega)) hW' (by omega)) (IntsAt.below (IntsAt.below (w := w4.drew) k2 hW (by omega)) hW' (by omega)) (by omega) (by omega) (by omega) (by omega) (by omega) (by omega) (Hwb.out x.1 (by omega))
      have hval2 : ∀ W, Below w4.heap.size w4.drew W → ValFn W 82 #[talV (some ⟨g1, 0, none⟩) (some ⟨g2, 0, none⟩) N N N N] #[] (fun x : Part 0 m => encI (x.1 : Int)) encI (fun p => lateF (totF ys) (totF zs) p.1) := fun W hW => by
        refine ⟨enters_of Try.func82 (by kernel_rfl) rfl, fun W' x hW' => ?_⟩
        have hmx := parts_mem.1 x.2
        have hs1 : w4.heap.size ≤ W.heap.size := hW.size
        have hs2 := hW'.size
        exact late_any W' V.heap.size V.heap.size (some ⟨g1, 0, none⟩) (some ⟨g2, 0, none⟩) N N N N x.1 (totF ys) (totF zs) (IntsAt.below (IntsAt.below (w := w4.drew) k1 hW (by omega)) hW' (by omega)) (IntsAt.below (IntsAt.below (w := w4.drew) k2 hW (by omega)) hW' (by omega)) (by omega) (by omega) (by omega) (by omega) (by omega) (by omega) (Nat.le_refl _) (by omega)
      have Hval := Lib.hid (And.intro hval hval2)
      clear hval hval2 k1 k2
      go_wp2_with (fail)
      refine region_held_wp 1 (fun W' => Below w4.heap.size w4.drew W') (fun j => decide (j = 3) || decide (j = 5) || decide (j = 2) || decide (j = 6)) (by kernel_rfl) ?_
      intro KR hKR
      have hS : Below w4.heap.size w4.drew w4.drew := Below.refl _ _
      refine wpAnyHI_takeW (i := 0) (v := .func (.func 106) #[] #[.pointer (some ⟨bl, 0, none⟩), .pointer (some ⟨bh, 0, none⟩)]) (some 28) rfl rfl (by kernel_rfl) (by kernel_rfl) (by kernel_rfl) (by kernel_rfl) (fun _ _ _ h => h) (.inl ⟨by kernel_rfl, fun W' hS' => ?_⟩) ?_
      · go_simp
      refine wpAnyHI_takeW (i := 4) (v := .func (.func 106) #[] #[.pointer (some ⟨bl, 0, none⟩), .pointer (some ⟨bh, 0, none⟩)]) (some 32) rfl rfl (by kernel_rfl) (by kernel_rfl) (by kernel_rfl) (by kernel_rfl) (fun _ _ _ h => h) (.inl ⟨by kernel_rfl, fun W' hS' => ?_⟩) ?_
      · go_simp
      refine wpAnyHI_takeE (i := 1) (v := talV (some ⟨g1, 0, none⟩) (some ⟨g2, 0, none⟩) N N N N) (some 29) rfl rfl (by kernel_rfl) (by kernel_rfl) (by kernel_rfl) (by kernel_rfl) (by kernel_rfl) (fun _ _ _ h => h) hS (.inl ⟨by kernel_rfl, fun W' hS' => ?_⟩) ?_
      · have q0 := d0 W' hS'; have q1 := d1 W' hS'; go_simp
      refine wpAnyHI_takeE (i := 5) (v := talV (some ⟨g1, 0, none⟩) (some ⟨g2, 0, none⟩) N N N N) (some 33) rfl rfl (by kernel_rfl) (by kernel_rfl) (by kernel_rfl) (by kernel_rfl) (by kernel_rfl) (fun _ _ _ h => h) hS (.inl ⟨by kernel_rfl, fun W' hS' => ?_⟩) ?_
      · have q0 := d0 W' hS'; have q1 := d1 W' hS'; go_simp
      refine wpAnyHI_takeE (i := 2) (v := .func (.func 78) #[talV (some ⟨g1, 0, none⟩) (some ⟨g2, 0, none⟩) N N N N] #[]) (some 30) rfl rfl (by kernel_rfl) (by kernel_rfl) (by kernel_rfl) (by kernel_rfl) (by kernel_rfl) (fun _ _ _ h => h) hS (.inl ⟨by kernel_rfl, fun W' hS' => ?_⟩) ?_
      · go_simp
      refine wpAnyHI_takeE (i := 6) (v := .func (.func 82) #[talV (some ⟨g1, 0, none⟩) (some ⟨g2, 0, none⟩) N N N N] #[]) (some 34) rfl rfl (by kernel_rfl) (by kernel_rfl) (by kernel_rfl) (by kernel_rfl) (by kernel_rfl) (fun _ _ _ h => h) hS (.inl ⟨by kernel_rfl, fun W' hS' => ?_⟩) ?_
      · go_simp
      have hb9 : Below w.heap.size w w4.drew := hb8.trans (below_drew w4)
      have hz9 : w.heap.size ≤ w4.drew.heap.size := hb9.size
      have hbl' : Boxed w4.drew bl 3 (.int .i64 0) := hbl
      have hbh' : Boxed w4.drew bh 3 (.int .i64 (m : Int)) := hbh
      have hit := between1_any w4.drew bl bh w4.drew.heap.size 0 m hbl' hbh' (Nat.le_refl _) (by omega) (by omega)
      refine wpAnyHI_one (i := 3) rfl (by kernel_rfl) ?_
      intro K1 hK1
      go_simp
      refine ⟨trivial, (callsIn_wide.2 (bestInt_any w4.drew 106 _ (fun p : Part 0 m => (p.1 : Int)) _ _ _ _ _ _ _ _ _ gtI (enters_of Try.func106 (by kernel_rfl) rfl) hit (by
        rintro k (rfl | rfl)
        · exact hbl'.lt
        · exact hbh'.lt) (Hval.out.1 _ hS) greater_fn)).mono ?_⟩
      rintro e w5 ⟨rfl, hb10⟩
      refine hK1 _ _ ⟨fun _ => hb10, ?_⟩
      clear hK1 K1 hit
      have hb11 := hb9.trans (hb10.mono hz9)
      have hbl2 := bxBelow hbl' hb10 hbl'.lt
      have hbh2 := bxBelow hbh' hb10 hbh'.lt
      have hit := between1_any w5 bl bh w5.heap.size 0 m hbl2 hbh2 (Nat.le_refl _) (by omega) (by omega)
      refine wpAnyHI_one (i := 7) rfl (by kernel_rfl) ?_
      intro K1 hK1
      go_simp
      refine ⟨trivial, (callsIn_wide.2 (bestInt_any w5 106 _ (fun p : Part 0 m => (p.1 : Int)) _ _ _ _ _ _ _ _ _ gtI (enters_of Try.func106 (by kernel_rfl) rfl) hit (by
        rintro k (rfl | rfl)
        · exact hbl2.lt
        · exact hbh2.lt) (Hval.out.2 _ hb10) greater_fn)).mono ?_⟩
      rintro e w6 ⟨rfl, hb12⟩
      refine hK1 _ _ ⟨fun h => absurd h (by simp), ?_⟩
      clear hK1 K1 hit
      have hb13 := hb11.trans (hb12.mono hb11.size)
      obtain ⟨v1, hv1⟩ : ∃ v1, v1 = (bestO (fun p : Part 0 m => waitF (totF ys) (totF zs) p.1) gtI (partsS 0 m)).getD 0 := ⟨_, rfl⟩
      obtain ⟨v2, hv2⟩ : ∃ v2, v2 = (bestO (fun p : Part 0 m => lateF (totF ys) (totF zs) p.1) gtI (partsS 0 m)).getD 0 := ⟨_, rfl⟩
      have hsr := Hs.out
      unfold bestV
      rw [← hv1, ← hv2] at hsr ⊢
      have Hs2 := Lib.hid hsr
      clear hsr hv1 hv2 hb12 hb11 hb10 hb9 hb8 hbl2 hbh2 hbl' hbh' hbl hbh d0 d1 r0 r1 hS
      refine wpAnyHI_one (i := 8) rfl (by kernel_rfl) ?_
      intro K1 hK1
      go_simp
      refine hK1 _ _ ⟨fun h => absurd h (by simp), ?_⟩
      clear hK1 K1
      refine wpAnyHI_one (i := 9) rfl (by kernel_rfl) ?_
      intro K1 hK1
      go_simp
      refine hK1 _ _ ⟨fun h => absurd h (by simp), ?_⟩
      clear hK1 K1
      refine wpAnyHI_one (i := 10) rfl (by kernel_rfl) ?_
      intro K1 hK1
      go_simp
      refine hK1 _ _ ⟨fun h => absurd h (by simp), ?_⟩
      clear hK1 K1
      refine wpAnyHI_end (by kernel_rfl) ?_
      show KR _ _
      go_simp
      refine hKR _ _ ?_
      go_wp2_with (fail)
      refine bodyPost_ret (v := .tuple #[.int .i64 v1, .int .i64 v2, .int .i64 0]) (Seen_results _ _ _ _ _ (by simp) (by simp) (by simp)) rfl ?_
      exact ⟨by rw [Hs2.out], hb13⟩
end Go.Proofs.Ytjidllaaokdjhaa
