/- Parts of a proof: LO LP LQ LR. -/
import Derived.Test.YtlgibckhkdggdaaH4
import Derived.ArgAppend
import Derived.Lib.SliceRun

/- lag: late; the least of a shaft. -/
namespace Go.Proofs.Ytlgibckhkdggdaa
open Go.RowKit Go.Shelf

attribute [local go_sem] Oper.semAt_some

set_option maxHeartbeats 1000000 in
theorem index_any (w : World) (b1 b2 n1 c1 k : Nat) (A1 : Option Addr) (B B2 : Nat) (ts : List Int) (k1 : w.cell? ⟨b1, 0, none⟩ = some (.slice A1 n1 c1)) (k2 : w.cell? ⟨b2, 0, none⟩ = some (.int .i64 (k : Int))) (h1 : IntsAt w B A1 n1 ts) (hk : k < n1)
    (A : Option Addr) (n c : Nat) (ys : List Int) (hy : IntsAt w B2 A n ys) :
    Calls Try.prog 107 #[.slice A n c, .func (.func 108) #[] #[.pointer (some ⟨b1, 0, none⟩), .pointer (some ⟨b2, 0, none⟩)]] w
      fun e w' => e = .returned (encI (idxGE (ts[k]?.getD 0) ys)) ∧ w' = w := by
  have hm := hy.small
  unfold encI
  go_enter Try.func107, Try.ntmps107
  go_wp2
  go_loop [8] (fun i => ∃ j : Nat, j ≤ n ∧ i = .int .i64 (j : Int) ∧ ∀ q, q < j → ys[q]?.getD 0 < ts[k]?.getD 0) (fun i => n - (intOf i).toNat)
  case atStart => exact ⟨0, by omega, rfl, fun j hj => by omega⟩
  case round =>
    obtain ⟨j, hj, rfl, hall⟩ := hrel
    have Hall := Lib.hid hall
    clear hall
    by_cases hlt : j < n
    · obtain ⟨b, o, rfl, -, e1⟩ := hy.cell hlt
      by_cases hq : ts[k]?.getD 0 ≤ ys[j]?.getD 0
      · have hd : decide (ts[k]?.getD 0 ≤ ys[j]?.getD 0) = true := by simpa using hq
        go_wp2_with (go_at_call 108; refine (late1_any _ b1 b2 n1 c1 k A1 B ts _ k1 k2 h1 hk).mono ?_; rintro e w' ⟨rfl, rfl⟩)
        go_ret
        exact ⟨ret_int (idxGE_at (by rw [hy.len]; exact hlt) hq (fun q hq => by have := Hall.out q hq; omega)).symm, rfl⟩
      · have hd : decide (ts[k]?.getD 0 ≤ ys[j]?.getD 0) = false := by simpa using hq
        have Hq := Lib.hid hq
        clear hq
        go_wp2_with (go_at_call 108; refine (late1_any _ b1 b2 n1 c1 k A1 B ts _ k1 k2 h1 hk).mono ?_; rintro e w' ⟨rfl, rfl⟩)
        go_round
        case rel => exact ⟨j + 1, by omega, by go_num, fun q hq => by rcases Nat.lt_succ_iff_lt_or_eq.1 hq with h | rfl; exact Hall.out q h; have := Hq.out; omega⟩
        case measure => simp [intOf]; omega
    · go_wp2
      go_ret
      exact ⟨ret_int (idxGE_none fun j hj => by have := Hall.out j (by rw [hy.len] at hj; omega); omega).symm, rfl⟩

theorem IntsAt.drop {w : World} {B b off n : Nat} {xs : List Int} (h : IntsAt w B (some ⟨b, off, none⟩) n xs) {k : Nat} (_hk : k ≤ n) : IntsAt w B (some ⟨b, off + k, none⟩) (n - k) (xs.drop k) := by
  refine ⟨by rw [List.length_drop, h.len], by have := h.small; omega, fun h0 => ?_⟩
  obtain ⟨b', off', e, hb, hc⟩ := h.2.2 (by omega)
  cases e
  refine ⟨b, off + k, rfl, hb, fun j hj => ?_⟩
  rw [Nat.add_assoc, hc (k + j) (by omega), List.getElem?_drop]
def lateF (ts os : List Int) (k : Nat) : Int := idxGE (ts[k]?.getD 0) (os.drop k)
set_option maxRecDepth 100000 in
set_option maxHeartbeats 4000000 in
theorem late_any (w : World) (B1 B2 : Nat) (A1 A2 : Option Addr) (n1 n2 c1 c2 k : Nat) (ts os : List Int) (h1 : IntsAt w B1 A1 n1 ts) (h2 : IntsAt w B2 A2 n2 os) (hB1 : B1 ≤ w.heap.size) (hB2 : B2 ≤ w.heap.size) (hk1 : k < n1) (hk2 : k < n2) (_hn1 : n1 ≤ 1000) (_hn2 : n2 ≤ 1000) (hc2 : n2 ≤ c2) (_hc22 : c2 ≤ 1000000) :
    Calls Try.prog 82 #[talV A1 A2 n1 n2 c1 c2, .int .i64 (k : Int)] w fun e w' => e = .returned (encI (lateF ts os k)) ∧ Below w.heap.size w w' := by
  obtain ⟨V, hV⟩ : ∃ V, V = (w.alloc (.cells #[.slice A1 n1 c1, .slice A2 n2 c2] 96)).alloc (.cells #[.int .i64 (k : Int)] 3) := ⟨_, rfl⟩
  have hb0 : Below w.heap.size w V := by rw [hV]; exact ((Below.refl _ w).alloc (Nat.le_refl _) _).alloc (by simp) _
  have hh1 : V.heap[w.heap.size]? = some (.cells #[.slice A1 n1 c1, .slice A2 n2 c2] 96 (0, 0)) := by
    rw [hV]
    exact (Below.heap_alloc _ _ _ (by simp)).trans (World.alloc_heap_new w _)
  have hh3 : Boxed V (w.heap.size + 1) 3 (.int .i64 (k : Int)) := by
    rw [hV]
    have := Boxed.new (w.alloc (.cells #[.slice A1 n1 c1, .slice A2 n2 c2] 96)) 3 (.int .i64 (k : Int))
    simpa using this
  have hc1 : V.cell? ⟨w.heap.size, 0, none⟩ = some (.slice A1 n1 c1) := by simp [World.cell?, hh1]
  have hc3 := hh3.cell
  clear hh1 hh3
  have h1' := h1.below hb0 hB1
  have h2' := h2.below hb0 hB2
  obtain ⟨b2, o2, rfl, -, -⟩ := h2.cell hk2
  have hd := h2'.drop (k := k) (by omega)
  clear h1 h2 h2'
  go_enter Try.func82, Try.ntmps82
  go_wp2_with (fail)
  rw [← hV]
  clear hV
  refine (index_any V w.heap.size (w.heap.size + 1) n1 c1 k A1 B1 B2 ts hc1 hc3 h1' hk1 _ _ _ _ hd).mono ?_
  rintro e W1 ⟨rfl, rfl⟩
  unfold encI
  go_wp2_with (fail)
  refine bodyPost_ret (results_tmp rfl _ _ _) rfl ?_
  exact ⟨rfl, hb0⟩

/-- The least of a shaft for t turns. -/
def leastF (xs : List Int) (t : Nat) : Int := xs[xs.length - 1]?.getD 0 * ((t / xs.length : Nat) : Int) + (if 0 < t % xs.length then xs[t % xs.length - 1]?.getD 0 else 0)
theorem leastF_bound {xs : List Int} (hv : Nums xs) (t : Nat) : 0 ≤ leastF xs t ∧ leastF xs t ≤ 10000 * t + 10000 := by
  obtain ⟨h1, -, h3⟩ := hv
  have a := h3 (xs.length - 1) (by omega)
  have b := Nat.div_le_self t xs.length
  have c := Nat.mod_lt t (show 0 < xs.length by omega)
  unfold leastF
  have p1 : 0 ≤ xs[xs.length - 1]?.getD 0 * ((t / xs.length : Nat) : Int) := Int.mul_nonneg a.1 (Int.natCast_nonneg _)
  have p2 : xs[xs.length - 1]?.getD 0 * ((t / xs.length : Nat) : Int) ≤ 10000 * (t : Int) := by
    refine Int.le_trans (Int.mul_le_mul_of_nonneg_right a.2 (Int.natCast_nonneg _)) ?_
    omega
  split
  · have := h3 (t % xs.length - 1) (by omega)
    omega
  · omega
set_option maxRecDepth 100000 in
set_option maxHeartbeats 4000000 in
theorem shaftLeast_any (w : World) (B : Nat) (A : Option Addr) (n c t : Nat) (xs : List Int) (hx : IntsAt w B A n xs) (hv : Nums xs) (ht : t ≤ 1000) :
    Calls Try.prog 93 #[.slice A n c, .int .i64 (t : Int)] w fun e w' => e = .returned (encI (leastF xs t)) ∧ ∃ q, w' = w.drewN q := by
  have hn := hx.len
  have hn1 := hv.1
  have hn2 := hv.2.1
  have hbd := leastF_bound hv t
  rw [hn] at hn1 hn2
  obtain ⟨b, o, rfl, -, e1⟩ := hx.cell (k := n - 1) (by omega)
  have hlf : leastF xs t = xs[n - 1]?.getD 0 * ((t / n : Nat) : Int) + (if 0 < t % n then xs[t % n - 1]?.getD 0 else 0) := by unfold leastF; rw [hn]
  have hq : (t : Int).tdiv (n : Int) = ((t / n : Nat) : Int) := (Int.ofNat_tdiv t n).symm
  have hr : (t : Int).tmod (n : Int) = ((t % n : Nat) : Int) := (Int.ofNat_tmod t n).symm
  have hdl := Nat.div_le_self t n
  have hml := Nat.mod_lt t (show 0 < n by omega)
  have hla := hv.2.2 (n - 1) (by omega)
  have hp1 : 0 ≤ xs[n - 1]?.getD 0 * ((t / n : Nat) : Int) := Int.mul_nonneg hla.1 (Int.natCast_nonneg _)
  have hp2 : xs[n - 1]?.getD 0 * ((t / n : Nat) : Int) ≤ 10000 * ((t / n : Nat) : Int) := Int.mul_le_mul_of_nonneg_right hla.2 (Int.natCast_nonneg _)
  have hwn : IntKind.i64.wrap ((n : Int) - 1) = ((n - 1 : Nat) : Int) := by rw [IntKind.wrap_i64]; omega
  obtain ⟨d, hd⟩ : ∃ d, d = t / n := ⟨_, rfl⟩
  obtain ⟨r, hre⟩ : ∃ r, r = t % n := ⟨_, rfl⟩
  rw [← hd] at hlf hq hdl hp1 hp2
  rw [← hre] at hlf hr hml
  have hnn : n - 1 < n := by omega
  obtain ⟨n', hn'⟩ : ∃ n', n' = n - 1 := ⟨_, rfl⟩
  rw [← hn'] at e1 hlf hla hp1 hp2 hwn hnn
  obtain ⟨x, hxe⟩ : ∃ x, x = xs[n']?.getD 0 := ⟨_, rfl⟩
  rw [← hxe] at e1 hlf hla hp1 hp2
  have hn0 : ¬ n = 0 := by omega
  have hwd : IntKind.i64.wrap (d : Int) = (d : Int) := by rw [IntKind.wrap_i64]; omega
  have hwr : IntKind.i64.wrap (r : Int) = (r : Int) := by rw [IntKind.wrap_i64]; omega
  obtain ⟨pr, hpr⟩ : ∃ pr, pr = x * (d : Int) := ⟨_, rfl⟩
  have hwp : IntKind.i64.wrap (x * (d : Int)) = pr := by rw [← hpr, IntKind.wrap_i64]; rw [← hpr] at hp1 hp2; omega
  rw [← hpr] at hlf hp1 hp2
  unfold encI
  rw [hlf]
  by_cases h0 : 0 < r
  · obtain ⟨b', o', e, -, e2⟩ := hx.cell (k := r - 1) (by omega)
    cases e
    have hla2 := hv.2.2 (r - 1) (by omega)
    rw [if_pos h0]
    have hwr1 : IntKind.i64.wrap ((r : Int) - 1) = ((r - 1 : Nat) : Int) := by rw [IntKind.wrap_i64]; omega
    have hrn : r - 1 < n := by omega
    obtain ⟨r', hr'⟩ : ∃ r', r' = r - 1 := ⟨_, rfl⟩
    rw [← hr'] at e2 hla2 hwr1 hrn ⊢
    obtain ⟨y, hye⟩ : ∃ y, y = xs[r']?.getD 0 := ⟨_, rfl⟩
    rw [← hye] at e2 hla2 ⊢
    have hws : IntKind.i64.wrap (pr + y) = pr + y := by rw [IntKind.wrap_i64]; omega
    have hr0 : (0 : Int) < (r : Int) := by omega
    clear hpr hxe hye hr' hn' hre hd hlf hbd hv hx hla hp1 hp2 hla2 hdl hn hn1 h0
    go_enter Try.func93, Try.ntmps93
    go_wp2
    go_quiet (fail)
    go_wp2
    go_ret
    exact ⟨by simp, _, rfl⟩
  · rw [if_neg h0, Int.add_zero]
    have hr0 : ¬ (0 : Int) < (r : Int) := by omega
    clear hpr hxe hn' hre hd hlf hbd hv hx hla hp1 hp2 hdl hn hn1 h0
    go_enter Try.func93, Try.ntmps93
    go_wp2
    go_quiet (fail)
    go_wp2
    go_ret
    exact ⟨by simp, _, rfl⟩
end Go.Proofs.Ytlgibckhkdggdaa

/- lag: what a shaft adds at least. -/
namespace Go.Proofs.Ytlgibckhkdggdaa
open Go.RowKit Go.Shelf

attribute [local go_sem] Oper.semAt_some

set_option maxRecDepth 100000 in
set_option maxHeartbeats 2000000 in
theorem added1_any (w : World) (b1 b2 B B' : Nat) (A A' : Option Addr) (n c n' c' : Nat) (came xs : List Int) (p r : Nat) (h1 : Boxed w b1 77 (.slice A n c)) (h2 : Boxed w b2 87 (.slice A' n' c'))
    (hc : IntsAt w B A n came) (hx : IntsAt w B' A' n' xs) (hB : B ≤ w.heap.size) (hB' : B' ≤ w.heap.size) (hv : Nums xs) (hp : p ≤ 1000) (hr : r < n)
    (hb : 0 ≤ came[r]?.getD 0 ∧ came[r]?.getD 0 ≤ 1000000000) :
    Calls Try.prog 105 #[cutV ((p : Int), (r : Int)), .pointer (some ⟨b1, 0, none⟩), .pointer (some ⟨b2, 0, none⟩)] w fun e W' => e = .returned (encI (came[r]?.getD 0 + leastF xs p)) ∧ Below w.heap.size w W' := by
  have hm := hc.small
  obtain ⟨b3, o3, rfl, l3, e3⟩ := hc.cell hr
  have l3' : b3 < w.heap.size := by omega
  have c1 := h1.cell
  have c2 := h2.cell
  have l1 := h1.lt
  have l2 := h2.lt
  have hlb := leastF_bound hv p
  obtain ⟨x, hxe⟩ : ∃ x, x = came[r]?.getD 0 := ⟨_, rfl⟩
  obtain ⟨y, hye⟩ : ∃ y, y = leastF xs p := ⟨_, rfl⟩
  rw [← hxe] at e3 hb ⊢
  rw [← hye] at hlb ⊢
  have e6 : IntKind.i64.wrap (x + y) = x + y := by rw [IntKind.wrap_i64]; omega
  have hcl : ∀ k, Calls Try.prog 93 #[.slice A' n' c', .int .i64 (p : Int)] ((w.alloc (.cells #[.int .i64 (p : Int), .int .i64 (r : Int)] 122)).drewN k) fun e w' => e = .returned (.int .i64 y) ∧ ∃ q, w' = ((w.alloc (.cells #[.int .i64 (p : Int), .int .i64 (r : Int)] 122)).drewN k).drewN q := fun k => by
    rw [hye]
    exact shaftLeast_any _ B' A' n' c' p xs ((hx.alloc hB' _).drewN _) hv hp
  have Hcl := Lib.hid hcl
  clear hxe hye hb hlb h1 h2 hc hcl hx hv hp
  unfold cutV encI
  go_enter Try.func105, Try.ntmps105
  go_wp2
  go_quiet ((go_at_call 93; exact Calls.quiet_of (Hcl.out _)))
  go_wp2
  go_ret
  exact ⟨by simp, ((Below.refl _ w).alloc (Nat.le_refl _) _).trans (below_drewN _ _)⟩

/-- The least that is added of what came up to a turn. -/
def addF (came xs : List Int) (t : Nat) : Int := (bestO (fun p : Part 0 t => came[t - p.1]?.getD 0 + leastF xs p.1) ltI (partsS 0 t)).getD 0
def addR (L : Nat) (came xs : List Int) (k : Nat) : List Int := (List.range L).map fun j => if j < k then addF came xs j else 0
theorem addR_len (L : Nat) (came xs : List Int) (k : Nat) : (addR L came xs k).length = L := by simp [addR]
theorem addR_zero (L : Nat) (came xs : List Int) : addR L came xs 0 = List.replicate L 0 := by
  refine List.ext_getElem (by simp [addR]) fun i h1 h2 => ?_
  simp [addR]
theorem addR_set {L : Nat} {came xs : List Int} {k : Nat} : (addR L came xs k).set k (addF came xs k) = addR L came xs (k + 1) := by
  refine List.ext_getElem (by simp [addR]) fun i h1 h2 => ?_
  simp only [addR, List.getElem_set, List.getElem_map, List.getElem_range]
  by_cases h : k = i
  · subst h
    rw [if_pos rfl, if_pos (by omega)]
  · rw [if_neg h]
    by_cases h' : i < k
    · rw [if_pos h', if_pos (by omega)]
    · rw [if_neg h', if_neg (by omega)]
def addL (came xs : List Int) : List Int := addR came.length came xs came.length
theorem addL_get {came xs : List Int} {t : Nat} (ht : t < came.length) : (addL came xs)[t]?.getD 0 = addF came xs t := by simp [addL, addR, ht]
theorem addL_len (came xs : List Int) : (addL came xs).length = came.length := addR_len _ _ _ _

set_option maxRecDepth 100000 in
set_option maxHeartbeats 8000000 in
theorem added_any (w : World) (B B' : Nat) (A A' : Option Addr) (n c n' c' : Nat) (came xs : List Int)
    (hc : IntsAt w B A n came) (hx : IntsAt w B' A' n' xs) (hB : B ≤ w.heap.size) (hB' : B' ≤ w.heap.size) (hv : Nums xs) (hn : n ≤ 1000) (hb : ∀ j, j < n → 0 ≤ came[j]?.getD 0 ∧ came[j]?.getD 0 ≤ 1000000000) :
    Calls Try.prog 75 #[.slice A' n' c', .slice A n c] w fun e w' => ∃ g, w.heap.size ≤ g ∧ e = .returned (.slice (some ⟨g, 0, none⟩) n n) ∧ RowZ w' g (addL came xs) ∧ Below w.heap.size w w' := by
  have hlen := hc.len
  have hmks : ∀ W : World, (Instr.makeSlice 77 (.int .i64 (n : Int)) (.int .i64 (n : Int))).run Try.prog W = .ok (.slice (some ⟨W.heap.size, 0, none⟩) n n) (W.alloc (.cells ((List.replicate n (0 : Int)).map (Value.int .i64)).toArray 2)) := fun W => made_row (W := W) (N := n) (by omega)
  obtain ⟨mc, hmc⟩ : ∃ mc, mc = ((List.replicate n (0 : Int)).map (Value.int .i64)).toArray := ⟨_, rfl⟩
  rw [← hmc] at hmks
  obtain ⟨V, hV⟩ : ∃ V, V = ((w.alloc (.cells #[.slice A' n' c'] 87)).alloc (.cells #[.slice A n c] 77)).alloc (.cells mc 2) := ⟨_, rfl⟩
  have hb0 : Below w.heap.size w V := by rw [hV]; exact (((Below.refl _ w).alloc (Nat.le_refl _) _).alloc (by simp) _).alloc (by simp; omega) _
  have x2 : Boxed V w.heap.size 87 (.slice A' n' c') := by rw [hV]; exact ((Boxed.new w 87 (.slice A' n' c')).alloc _).alloc _
  have x3 : Boxed V (w.heap.size + 1) 77 (.slice A n c) := by
    rw [hV]
    have := (Boxed.new (w.alloc (.cells #[.slice A' n' c'] 87)) 77 (.slice A n c)).alloc (.cells mc 2)
    simpa using this
  have xr : RowZ V (w.heap.size + 1 + 1) (addR n came xs 0) := by
    rw [hV, addR_zero]
    have := (World.alloc_heap_new ((w.alloc (.cells #[.slice A' n' c'] 87)).alloc (.cells #[.slice A n c] 77)) (.cells mc 2))
    rw [World.size_alloc, World.size_alloc] at this
    rw [RowZ, this, hmc]
  have Hv := Lib.hid (And.intro hv (And.intro hb hlen))
  clear hmc hv hb hlen
  go_enter Try.func75, Try.ntmps75
  go_wp2_with (fail)
  rw [← hV]
  clear hV hmks
  go_loopw [12] (fun i wr => ∃ t : Nat, t ≤ n ∧ i = .int .i64 (t : Int) ∧ Boxed wr w.heap.size 87 (.slice A' n' c') ∧ Boxed wr (w.heap.size + 1) 77 (.slice A n c) ∧ RowZ wr (w.heap.size + 1 + 1) (addR n came xs t) ∧ Below w.heap.size w wr) (fun i _ => n - (intOf i).toNat)
  case atStart => exact ⟨0, by omega, rfl, x2, x3, xr, hb0⟩
  case round =>
    clear x2 x3 xr hb0
    obtain ⟨t, ht, rfl, y2, y3, yr, hb⟩ := hrel
    by_cases hlt : t < n
    case neg =>
      have htn : t = n := by omega
      rw [htn] at yr
      have hal : addR n came xs n = addL came xs := by unfold addL; rw [Hv.out.2.2]
      rw [hal] at yr
      clear htn hal
      go_wp2_with (fail)
      refine bodyPost_ret (results_tmp rfl _ _ _) rfl ?_
      exact ⟨w.heap.size + 1 + 1, by omega, rfl, yr, hb⟩
    case pos =>
      have hwt : IntKind.i64.wrap ((t : Int) + 1) = (t : Int) + 1 := by rw [IntKind.wrap_i64]; omega
      go_wp2_with (fail)
      refine (cuts_box (t : Int) 0 (t : Int) _).mono ?_
      rintro e W1 ⟨bl, bh, bt, rfl, hbl, hbh, hbt, hb1⟩
      have hB1 : Below w.heap.size w W1 := hb.trans (hb1.mono hb.size)
      have z2 := bxBelow y2 hb1 y2.lt
      have z3 := bxBelow y3 hb1 y3.lt
      have zr := yr.below hb1 yr.lt
      have hz1 := hB1.size
      have hit := cuts1_any W1 bl bh bt W1.heap.size 0 t t hbl hbh hbt (Nat.le_refl _) (by omega) (by omega) (by omega) t (by omega)
      have hval : ValFn W1 105 #[] #[.pointer (some ⟨w.heap.size + 1, 0, none⟩), .pointer (some ⟨w.heap.size, 0, none⟩)] (fun x : Part 0 t => cutV ((x.1 : Int), (t : Int) - (x.1 : Int))) encI (fun x => came[t - x.1]?.getD 0 + leastF xs x.1) := by
        refine ⟨enters_of Try.func105 (by kernel_rfl) rfl, fun W x hW => ?_⟩
        have hm := parts_mem.1 x.2
        have hrt : (t : Int) - (x.1 : Int) = ((t - x.1 : Nat) : Int) := by omega
        have hsz := hW.size
        have key := added1_any W (w.heap.size + 1) w.heap.size B B' A A' n c n' c' came xs x.1 (t - x.1) (bxBelow z3 hW z3.lt) (bxBelow z2 hW z2.lt) ((hc.below hB1 hB).below hW (by omega)) ((hx.below hB1 hB').below hW (by omega)) (by omega) (by omega) Hv.out.1 (by omega) (by omega) (Hv.out.2.1 _ (by omega))
        rw [← hrt] at key
        exact key
      go_wp2_with (fail)
      refine (bestCut_any W1 113 _ (fun x : Part 0 t => ((x.1 : Int), (t : Int) - (x.1 : Int))) _ _ _ _ _ _ _ _ _ ltI (enters_of Try.func113 (by kernel_rfl) rfl) hit (by
        rintro k ((rfl | rfl) | rfl)
        · exact hbl.lt
        · exact hbh.lt
        · exact hbt.lt) hval less_fn).mono ?_
      rintro e W2 ⟨rfl, hb2⟩
      have hB2 : Below w.heap.size w W2 := hB1.trans (hb2.mono hz1)
      have v2 := bxBelow z2 hb2 z2.lt
      have v3 := bxBelow z3 hb2 z3.lt
      have vr := zr.below hb2 zr.lt
      have hnx : bestV (bestO (fun x : Part 0 t => came[t - x.1]?.getD 0 + leastF xs x.1) ltI (partsS 0 t)) = .int .i64 (addF came xs t) := rfl
      rw [hnx]
      have hset := addR_set (L := n) (came := came) (xs := xs) (k := t)
      have ur := vr.set t (addF came xs t)
      rw [hset] at ur
      have k1 := vr.cell (j := t) (by rw [addR_len]; omega)
      have k2 := vr.frozen (j := t)
      clear hnx z2 z3 zr hb1 hb2 hbl hbh hbt y2 y3 yr hit hval hset vr
      obtain ⟨nx, hnx⟩ : ∃ nx, nx = addF came xs t := ⟨_, rfl⟩
      rw [← hnx] at ur ⊢
      clear hnx
      have u2 := bxOther v2 (b := w.heap.size + 1 + 1) (by omega) t (.int .i64 nx)
      have u3 := bxOther v3 (b := w.heap.size + 1 + 1) (by omega) t (.int .i64 nx)
      have hBu : Below w.heap.size w (W2.setCell ⟨w.heap.size + 1 + 1, t, none⟩ (.int .i64 nx)) := hB2.setCell (p := ⟨w.heap.size + 1 + 1, t, none⟩) (by show w.heap.size ≤ w.heap.size + 1 + 1; omega) _
      clear v2 v3 hB2
      go_wp2_with (fail)
      go_roundw
      case rel => exact ⟨t + 1, by omega, by go_num, u2, u3, ur, hBu⟩
      case measure => simp [intOf]; omega
end Go.Proofs.Ytlgibckhkdggdaa

/- lag: the row of totals. -/
namespace Go.Proofs.Ytlgibckhkdggdaa
open Go.RowKit Go.Shelf

attribute [local go_sem] Oper.semAt_some

def difF (ts : List Int) (j : Nat) : Int := ts[j + 1]?.getD 0 - ts[j]?.getD 0
def difR (L : Nat) (ts : List Int) (k : Nat) : List Int := (List.range L).map fun j => if j < k then difF ts j else 0
theorem difR_len (L : Nat) (ts : List Int) (k : Nat) : (difR L ts k).length = L := by simp [difR]
theorem difR_zero (L : Nat) (ts : List Int) : difR L ts 0 = List.replicate L 0 := by
  refine List.ext_getElem (by simp [difR]) fun i h1 h2 => ?_
  simp [difR]
theorem difR_set {L : Nat} {ts : List Int} {k : Nat} : (difR L ts k).set k (difF ts k) = difR L ts (k + 1) := by
  refine List.ext_getElem (by simp [difR]) fun i h1 h2 => ?_
  simp only [difR, List.getElem_set, List.getElem_map, List.getElem_range]
  by_cases h : k = i
  · subst h
    rw [if_pos rfl, if_pos (by omega)]
  · rw [if_neg h]
    by_cases h' : i < k
    · rw [if_pos h', if_pos (by omega)]
    · rw [if_neg h', if_neg (by omega)]
theorem difR_take {L : Nat} {ts : List Int} {n : Nat} (h : n ≤ L) : (difR L ts n).take n = difR n ts n := by
  refine List.ext_getElem (by simp [difR]; omega) fun i h1 h2 => ?_
  simp [difR]
/-- The row of totals. -/
def difL (ts : List Int) (n : Nat) : List Int := difR n ts n
abbrev RoomAt (W : World) (b : Nat) (row : List Int) : Prop := W.heap[b]? = some (.cells (row.map (Value.int .i64)).toArray 131 (0, 0))
theorem RoomAt.lt {W : World} {b : Nat} {row : List Int} (h : RoomAt W b row) : b < W.heap.size := (Array.getElem?_eq_some_iff.1 h).1
theorem RoomAt.cell {W : World} {g j : Nat} {row : List Int} (h : RoomAt W g row) (hj : j < row.length) : W.cell? ⟨g, j, none⟩ = some (.int .i64 (row[j]?.getD 0)) := by
  simp [World.cell?, h, hj]
theorem RoomAt.frozen {W : World} {g j : Nat} {row : List Int} (h : RoomAt W g row) : W.frozen? ⟨g, j, none⟩ = false := by simp [World.frozen?, h]
theorem RoomAt.below {W W' : World} {g D : Nat} {row : List Int} (h : RoomAt W g row) (hb : Below D W W') (hD : g < D) : RoomAt W' g row := (hb.block g hD).trans h
theorem RoomAt.set {W : World} {g : Nat} {row : List Int} (h : RoomAt W g row) (j : Nat) (x : Int) : RoomAt (W.setCell ⟨g, j, none⟩ (.int .i64 x)) g (row.set j x) := by
  show (W.setCell ⟨g, j, none⟩ (.int .i64 x)).heap[g]? = _
  simp [World.setCell, Array.getElem?_modify, h, List.map_set]
theorem made_rowS {W : World} {N : Nat} (hN : N ≤ 1000000) : (Instr.makeSlice 22 (.int .i64 (N : Int)) (.int .i64 (N : Int))).run Try.prog W = .ok (.slice (some ⟨W.heap.size, 0, none⟩) N N) (W.alloc (.cells ((List.replicate N (0 : Int)).map (Value.int .i64)).toArray 2)) := by
  obtain ⟨i0, hi, hz0, hz1, hz2⟩ := info_parts infoI64
  have h := run_makeSlice (P := Try.prog) (w := W) 22 2 i0 (.int .i64 0) Try.underlying22 hi hz0 .i64 .i64 N N (by omega) (by omega) (by rw [hz1]; simp; omega) (by rw [hz2]; omega) (by omega)
  have e : madeCells (Value.int .i64 0).cells ((N : Int).toNat * i0.size) = ((List.replicate N (0 : Int)).map (Value.int .i64)).toArray := by
    rw [hz1]
    unfold madeCells
    apply Array.ext
    · simp
    · intro i h1 h2
      simp [Value.cells, Nat.mod_one]
  rw [e] at h
  exact h

theorem room_slice (W : World) (b n : Nat) (hn : n ≤ 60) : (Instr.sliceAt 131 (.pointer (some ⟨b, 0, none⟩)) none (some (.int .i64 0)) (some (.int .i64 (n : Int)))).run Try.prog W = .ok (.slice (some ⟨b, 0, none⟩) 0 n) W := by
  obtain ⟨i0, hi, hz0, hz1, hz2⟩ := info_parts infoI64
  have hal : Try.prog.arrayLen 131 = 60 := by kernel_rfl
  have hel : Try.prog.elem 131 = 2 := by kernel_rfl
  have h := run_sliceAt_array_hm (P := Try.prog) W 131 ⟨b, 0, none⟩ (by kernel_rfl) .i64 .i64 0 (n : Int) (by omega) (by omega) (by rw [hal]; omega)
  rw [h, hel]
  have hs : (sizeOf 2).run Try.prog W = .ok 1 W := by simp [sizeOf, typeInfo, hi, hz1]
  rw [hs]
  simp only [Result.andThen, slicedAt, Int.toNat_natCast, Nat.sub_zero, Int.toNat_zero, Nat.zero_mul]
  split <;> rfl
theorem room_zero : (#[.int .i64 0, .int .i64 0, .int .i64 0, .int .i64 0, .int .i64 0, .int .i64 0, .int .i64 0, .int .i64 0, .int .i64 0, .int .i64 0, .int .i64 0, .int .i64 0, .int .i64 0, .int .i64 0, .int .i64 0, .int .i64 0, .int .i64 0, .int .i64 0, .int .i64 0, .int .i64 0, .int .i64 0, .int .i64 0, .int .i64 0, .int .i64 0, .int .i64 0, .int .i64 0, .int .i64 0, .int .i64 0, .int .i64 0, .int .i64 0, .int .i64 0, .int .i64 0, .int .i64 0, .int .i64 0, .int .i64 0, .int .i64 0, .int .i64 0, .int .i64 0, .int .i64 0, .int .i64 0, .int .i64 0, .int .i64 0, .int .i64 0, .int .i64 0, .int .i64 0, .int .i64 0, .int .i64 0, .int .i64 0, .int .i64 0, .int .i64 0, .int .i64 0, .int .i64 0, .int .i64 0, .int .i64 0, .int .i64 0, .int .i64 0, .int .i64 0, .int .i64 0, .int .i64 0, .int .i64 0] : Array Value) = ((difR 60 [] 0).map (Value.int .i64)).toArray := by rw [difR_zero]; rfl
set_option maxRecDepth 100000 in
set_option maxHeartbeats 8000000 in
theorem row_any (w : World) (B : Nat) (A : Option Addr) (N n c : Nat) (ts : List Int) (hx : IntsAt w B A N ts) (hB : B ≤ w.heap.size) (hN1 : N ≤ n + 1) (hN2 : n + 1 ≤ N) (hn : n ≤ 60) (hd : ∀ k, k < n → -1000000000 ≤ difF ts k ∧ difF ts k ≤ 1000000000) :
    Calls Try.prog 74 #[.slice A N c] w fun e w' => ∃ g, w.heap.size ≤ g ∧ e = .returned (.slice (some ⟨g, 0, none⟩) n n) ∧ RowZ w' g (difL ts n) ∧ Below w.heap.size w w' := by
  have hwN : IntKind.i64.wrap ((N : Int) - 1) = (n : Int) := by rw [IntKind.wrap_i64]; omega
  have Hd := Lib.hid hd
  clear hd
  obtain ⟨zs, hzs⟩ : ∃ zs : Array Value, zs = #[.int .i64 0, .int .i64 0, .int .i64 0, .int .i64 0, .int .i64 0, .int .i64 0, .int .i64 0, .int .i64 0, .int .i64 0, .int .i64 0, .int .i64 0, .int .i64 0, .int .i64 0, .int .i64 0, .int .i64 0, .int .i64 0, .int .i64 0, .int .i64 0, .int .i64 0, .int .i64 0, .int .i64 0, .int .i64 0, .int .i64 0, .int .i64 0, .int .i64 0, .int .i64 0, .int .i64 0, .int .i64 0, .int .i64 0, .int .i64 0, .int .i64 0, .int .i64 0, .int .i64 0, .int .i64 0, .int .i64 0, .int .i64 0, .int .i64 0, .int .i64 0, .int .i64 0, .int .i64 0, .int .i64 0, .int .i64 0, .int .i64 0, .int .i64 0, .int .i64 0, .int .i64 0, .int .i64 0, .int .i64 0, .int .i64 0, .int .i64 0, .int .i64 0, .int .i64 0, .int .i64 0, .int .i64 0, .int .i64 0, .int .i64 0, .int .i64 0, .int .i64 0, .int .i64 0, .int .i64 0] := ⟨_, rfl⟩
  have hzr : zs = ((difR 60 ts 0).map (Value.int .i64)).toArray := by rw [hzs, room_zero, difR_zero, difR_zero]
  obtain ⟨V, hV⟩ : ∃ V, V = w.alloc (.cells #[.int .i64 0, .int .i64 0, .int .i64 0, .int .i64 0, .int .i64 0, .int .i64 0, .int .i64 0, .int .i64 0, .int .i64 0, .int .i64 0, .int .i64 0, .int .i64 0, .int .i64 0, .int .i64 0, .int .i64 0, .int .i64 0, .int .i64 0, .int .i64 0, .int .i64 0, .int .i64 0, .int .i64 0, .int .i64 0, .int .i64 0, .int .i64 0, .int .i64 0, .int .i64 0, .int .i64 0, .int .i64 0, .int .i64 0, .int .i64 0, .int .i64 0, .int .i64 0, .int .i64 0, .int .i64 0, .int .i64 0, .int .i64 0, .int .i64 0, .int .i64 0, .int .i64 0, .int .i64 0, .int .i64 0, .int .i64 0, .int .i64 0, .int .i64 0, .int .i64 0, .int .i64 0, .int .i64 0, .int .i64 0, .int .i64 0, .int .i64 0, .int .i64 0, .int .i64 0, .int .i64 0, .int .i64 0, .int .i64 0, .int .i64 0, .int .i64 0, .int .i64 0, .int .i64 0, .int .i64 0] 131) := ⟨_, rfl⟩
  have hb0 : Below w.heap.size w V := by rw [hV]; exact (Below.refl _ w).alloc (Nat.le_refl _) _
  have xr : RoomAt V w.heap.size (difR 60 ts 0) := by
    rw [hV, ← hzs, hzr]
    exact World.alloc_heap_new w _
  have hsl := room_slice V w.heap.size n hn
  rw [hV] at hsl
  clear hzs hzr
  have hsz : (Try.prog.info? 2).map (·.size) = some 1 := by kernel_rfl
  obtain ⟨i0, hi, hz0, hz1, hz2⟩ := info_parts infoI64
  have Hi := Lib.hid (And.intro hi (And.intro hz1 hsz))
  clear hi hz0 hz1 hz2 hsz
  go_enter Try.func74, Try.ntmps74
  go_wp2_with (fail)
  rw [← hV]
  clear hV hsl
  go_loopw [5, 14] (fun v5 i wr => ∃ k : Nat, k ≤ n ∧ i = .int .i64 (k : Int) ∧ v5 = .slice (some ⟨w.heap.size, 0, none⟩) k n ∧ RoomAt wr w.heap.size (difR 60 ts k) ∧ Below w.heap.size w wr) (fun _ i _ => n - (intOf i).toNat)
  case atStart => exact ⟨0, by omega, rfl, rfl, xr, hb0⟩
  case round =>
    clear xr hb0
    obtain ⟨k, hk, rfl, rfl, yr, hb⟩ := hrel
    by_cases hlt : k < n
    case neg =>
      have hkn : k = n := by omega
      subst hkn
      have hmks := fun W : World => made_rowS (W := W) (N := k) (by omega)
      obtain ⟨mc, hmc⟩ : ∃ mc, mc = ((List.replicate k (0 : Int)).map (Value.int .i64)).toArray := ⟨_, rfl⟩
      rw [← hmc] at hmks
      have hb1 : Below w.heap.size w (wr.alloc (.cells mc 2)) := hb.alloc hb.size _
      have hrm : RoomAt (wr.alloc (.cells mc 2)) w.heap.size (difR 60 ts k) := (Below.heap_alloc wr _ _ yr.lt).trans yr
      have hmr : (wr.alloc (.cells mc 2)).heap[wr.heap.size]? = some (.cells mc 2 (0, 0)) := World.alloc_heap_new wr _
      have hzl : w.heap.size < wr.heap.size := yr.lt
      have hmcs : mc.size = k := by rw [hmc]; simp
      have hcs : ((difL ts k).map (Value.int .i64)).length = k := by rw [List.length_map]; exact difR_len _ _ _
      have hcp := run_copy_row (P := Try.prog) (wr.alloc (.cells mc 2)) 22 22 3 2 wr.heap.size 0 k k ⟨w.heap.size, 0, none⟩ k k mc 2 ((difL ts k).map (Value.int .i64)) Try.underlying22 Hi.out.2.2 hmr (by rw [hcs]; exact (Nat.min_self k).symm)
        (fun j v hj => by
          have hjk : j < k := by have := (List.getElem?_eq_some_iff.1 hj).1; omega
          have h1 := hrm.cell (j := j) (by rw [difR_len]; omega)
          have h2 : (difR 60 ts k)[j]?.getD 0 = (difL ts k)[j]?.getD 0 := by
            unfold difL difR
            simp [hjk, show j < 60 by omega]
          rw [h2] at h1
          have h3 : j < (difL ts k).length := by unfold difL; rw [difR_len]; exact hjk
          simp only [List.getElem?_map, List.getElem?_eq_getElem h3, Option.map_some, Option.some.injEq] at hj
          subst hj
          simp only [List.getElem?_eq_getElem h3, Option.getD_some] at h1
          rw [show (⟨w.heap.size, 0, none⟩ : Addr).add j = ⟨w.heap.size, j, none⟩ by simp only [Addr.add]; split <;> simp_all]
          exact h1) (by omega) (by simp [Value.oneCell'])
      have hst := setRow_heap (wr.alloc (.cells mc 2)) wr.heap.size mc (mc.toList.take 0 ++ (difL ts k).map (Value.int .i64) ++ mc.toList.drop (0 + ((difL ts k).map (Value.int .i64)).length)).toArray _ _ hmr
      have hB2 : Below w.heap.size w ((wr.alloc (.cells mc 2)).setRow wr.heap.size (mc.toList.take 0 ++ (difL ts k).map (Value.int .i64) ++ mc.toList.drop (0 + ((difL ts k).map (Value.int .i64)).length)).toArray) := below_setRow hb1 (by omega) _
      obtain ⟨W2, hW2⟩ : ∃ W2, W2 = (wr.alloc (.cells mc 2)).setRow wr.heap.size (mc.toList.take 0 ++ (difL ts k).map (Value.int .i64) ++ mc.toList.drop (0 + ((difL ts k).map (Value.int .i64)).length)).toArray := ⟨_, rfl⟩
      rw [← hW2] at hcp hst hB2
      clear hW2
      have hfin : RowZ W2 wr.heap.size (difL ts k) := by
        rw [RowZ, hst]
        simp [hmcs, hcs]
      rw [hcs] at hcp
      clear hst hmr hrm hb1 hmc hcs hmcs
      go_wp2_with (fail)
      refine bodyPost_ret (results_tmp rfl _ _ _) rfl ?_
      exact ⟨wr.heap.size, by omega, rfl, hfin, hB2⟩
    case pos =>
      have hx1 := hx.below hb hB
      obtain ⟨b, o, rfl, lb, e1⟩ := hx1.cell (k := k) (by omega)
      obtain ⟨b', o', he, -, e2⟩ := hx1.cell (k := k + 1) (by omega)
      cases he
      have hwk : IntKind.i64.wrap ((k : Int) + 1) = ((k + 1 : Nat) : Int) := by rw [IntKind.wrap_i64]; omega
      have hd := Hd.out k hlt
      have hwd : IntKind.i64.wrap (ts[k + 1]?.getD 0 - ts[k]?.getD 0) = difF ts k := by unfold difF at hd ⊢; rw [IntKind.wrap_i64]; omega
      obtain ⟨x1, hx1e⟩ : ∃ x, x = ts[k]?.getD 0 := ⟨_, rfl⟩
      obtain ⟨x2, hx2e⟩ : ∃ x, x = ts[k + 1]?.getD 0 := ⟨_, rfl⟩
      obtain ⟨d, hde⟩ : ∃ d, d = difF ts k := ⟨_, rfl⟩
      rw [← hx1e] at e1 hwd
      rw [← hx2e] at e2 hwd
      rw [← hde] at hwd
      have Hde := Lib.hid hde
      clear hx1e hx2e hde hd
      have lb' : b < wr.heap.size := by have := hb.size; omega
      have d1 : ∀ W, Below wr.heap.size wr.drew W → W.cell? ⟨b, o + k, none⟩ = some (.int .i64 x1) := fun W h => (h.cell (p := ⟨b, o + k, none⟩) lb').trans e1
      have d2 : ∀ W, Below wr.heap.size wr.drew W → W.cell? ⟨b, o + (k + 1), none⟩ = some (.int .i64 x2) := fun W h => (h.cell (p := ⟨b, o + (k + 1), none⟩) lb').trans e2
      have hkN : k + 1 < N := by omega
      have hkN' : k < N := by omega
      go_wp2_with (fail)
      refine region_held_wp 1 (fun W' => Below wr.heap.size wr.drew W') (fun j => decide (j = 9)) (by kernel_rfl) ?_
      intro KR hKR
      have hS : Below wr.heap.size wr.drew wr.drew := Below.refl _ _
      refine wpAnyHI_takeW (i := 0) (v := .slice (some ⟨w.heap.size, 0, none⟩) k n) (some 17) rfl rfl (by kernel_rfl) (by kernel_rfl) (by kernel_rfl) (by kernel_rfl) (fun _ _ _ h => h) (.inl ⟨by kernel_rfl, fun W' hS' => ?_⟩) ?_
      · go_simp
      refine wpAnyHI_takeW (i := 1) (v := .slice (some ⟨b, o, none⟩) N c) (some 18) rfl rfl (by kernel_rfl) (by kernel_rfl) (by kernel_rfl) (by kernel_rfl) (fun _ _ _ h => h) (.inl ⟨by kernel_rfl, fun W' hS' => ?_⟩) ?_
      · go_simp
      refine wpAnyHI_takeW (i := 2) (v := .int .i64 (k : Int)) (some 19) rfl rfl (by kernel_rfl) (by kernel_rfl) (by kernel_rfl) (by kernel_rfl) (fun _ _ _ h => h) (.inl ⟨by kernel_rfl, fun W' hS' => ?_⟩) ?_
      · go_simp
      refine wpAnyHI_takeW (i := 3) (v := .int .i64 ((k + 1 : Nat) : Int)) (some 20) rfl rfl (by kernel_rfl) (by kernel_rfl) (by kernel_rfl) (by kernel_rfl) (fun _ _ _ h => h) (.inl ⟨by kernel_rfl, fun W' hS' => ?_⟩) ?_
      · go_simp
      refine wpAnyHI_takeW (i := 4) (v := .pointer (some ⟨b, o + (k + 1), none⟩)) (some 21) rfl rfl (by kernel_rfl) (by kernel_rfl) (by kernel_rfl) (by kernel_rfl) (fun _ _ _ h => h) (.inl ⟨by kernel_rfl, fun W' hS' => ?_⟩) ?_
      · go_simp; intro hx; exfalso; omega
      refine wpAnyHI_takeW (i := 6) (v := .slice (some ⟨b, o, none⟩) N c) (some 23) rfl rfl (by kernel_rfl) (by kernel_rfl) (by kernel_rfl) (by kernel_rfl) (fun _ _ _ h => h) (.inl ⟨by kernel_rfl, fun W' hS' => ?_⟩) ?_
      · go_simp
      refine wpAnyHI_takeW (i := 7) (v := .int .i64 (k : Int)) (some 24) rfl rfl (by kernel_rfl) (by kernel_rfl) (by kernel_rfl) (by kernel_rfl) (fun _ _ _ h => h) (.inl ⟨by kernel_rfl, fun W' hS' => ?_⟩) ?_
      · go_simp
      refine wpAnyHI_takeW (i := 8) (v := .pointer (some ⟨b, o + k, none⟩)) (some 25) rfl rfl (by kernel_rfl) (by kernel_rfl) (by kernel_rfl) (by kernel_rfl) (fun _ _ _ h => h) (.inl ⟨by kernel_rfl, fun W' hS' => ?_⟩) ?_
      · go_simp
      refine wpAnyHI_takeE (i := 5) (v := .int .i64 x2) (some 22) rfl rfl (by kernel_rfl) (by kernel_rfl) (by kernel_rfl) (by kernel_rfl) (by kernel_rfl) (fun _ _ _ h => h) hS (.inl ⟨by kernel_rfl, fun W' hS' => ?_⟩) ?_
      · have q := d2 W' hS'; go_simp
      refine wpAnyHI_takeE (i := 9) (v := .int .i64 x1) (some 26) rfl rfl (by kernel_rfl) (by kernel_rfl) (by kernel_rfl) (by kernel_rfl) (by kernel_rfl) (fun _ _ _ h => h) hS (.inl ⟨by kernel_rfl, fun W' hS' => ?_⟩) ?_
      · have q := d1 W' hS'; go_simp
      refine wpAnyHI_takeW (i := 10) (v := .int .i64 d) (some 27) rfl rfl (by kernel_rfl) (by kernel_rfl) (by kernel_rfl) (by kernel_rfl) (fun _ _ _ h => h) (.inl ⟨by kernel_rfl, fun W' hS' => ?_⟩) ?_
      · go_simp
      refine wpAnyHI_one (i := 11) rfl (by kernel_rfl) ?_
      intro K1 hK1
      go_simp
      refine hK1 _ _ ⟨fun h => absurd h (by simp), ?_⟩
      clear hK1 K1
      have hbd : Below w.heap.size w (wr.alloc (.cells #[.int .i64 d] 2)).drew := (hb.alloc hb.size _).trans (below_drew _)
      have hnw : Boxed (wr.alloc (.cells #[.int .i64 d] 2)).drew wr.heap.size 2 (.int .i64 d) := Boxed.new wr 2 (.int .i64 d)
      have hrm : RoomAt (wr.alloc (.cells #[.int .i64 d] 2)).drew w.heap.size (difR 60 ts k) := (Below.heap_alloc wr _ _ yr.lt).trans yr
      obtain ⟨W1, hW1⟩ : ∃ W1, W1 = (wr.alloc (.cells #[.int .i64 d] 2)).drew := ⟨_, rfl⟩
      rw [← hW1] at hbd hnw hrm ⊢
      clear hW1
      have hle : k + 1 ≤ n := by omega
      have hcn := hnw.cell
      have q1 := hrm.cell (j := k) (by rw [difR_len]; omega)
      have q2 := hrm.frozen (j := k)
      have hset := hrm.set k (difF ts k)
      rw [difR_set] at hset
      rw [← Hde.out] at hset
      have hbu : Below w.heap.size w (W1.setCell ⟨w.heap.size, k, none⟩ (.int .i64 d)) := hbd.setCell (p := ⟨w.heap.size, k, none⟩) (Nat.le_refl _) _
      clear hrm hnw hbd
      refine wpAnyHI_one (i := 12) rfl (by kernel_rfl) ?_
      intro K1 hK1
      go_simp
      refine hK1 _ _ ⟨fun h => absurd h (by simp), ?_⟩
      clear hK1 K1 hcn q1 q2
      obtain ⟨W2, hW2⟩ : ∃ W2, W2 = W1.setCell ⟨w.heap.size, k, none⟩ (.int .i64 d) := ⟨_, rfl⟩
      rw [← hW2] at hset hbu ⊢
      clear hW2
      refine wpAnyHI_one (i := 13) rfl (by kernel_rfl) ?_
      intro K1 hK1
      go_simp
      refine hK1 _ _ ⟨fun h => absurd h (by simp), ?_⟩
      clear hK1 K1
      refine wpAnyHI_end (by kernel_rfl) ?_
      show KR _ _
      go_simp
      refine hKR _ _ ?_
      go_wp2_with (fail)
      go_roundw
      case rel => exact ⟨k + 1, by omega, by go_num, rfl, hset, hbu⟩
      case measure => simp [intOf]; omega
end Go.Proofs.Ytlgibckhkdggdaa

/- lag: where a row breaks a curve. -/
namespace Go.Proofs.Ytlgibckhkdggdaa
open Go.RowKit Go.Shelf

attribute [local go_sem] Oper.semAt_some

theorem cleared {g D : Nat} {w0 : World} (hD : D ≤ g) : ∀ (m o : Nat) (W : World) (row : List Int), RowZ W g row → (∀ j, j < o → row[j]?.getD 0 = 0) → o + m = row.length → Below D w0 W →
    RowZ (W.setCells g o (List.replicate m (.int .i64 0))) g (List.replicate row.length 0) ∧ Below D w0 (W.setCells g o (List.replicate m (.int .i64 0))) ∧ ∀ k, k ≠ g → (W.setCells g o (List.replicate m (.int .i64 0))).heap[k]? = W.heap[k]?
  | 0, o, W, row, h, h0, hl, hb => by
    refine ⟨?_, hb, fun _ _ => rfl⟩
    have e : row = List.replicate row.length 0 := List.ext_getElem (by simp) fun i h1 h2 => by
      have := h0 i (by omega)
      rw [List.getElem?_eq_getElem h1] at this
      simpa using this
    show RowZ W g _
    rw [← e]
    exact h
  | m + 1, o, W, row, h, h0, hl, hb => by
    have h1 := h.set o 0
    have hb1 : Below D w0 (W.setCell ⟨g, o, none⟩ (.int .i64 0)) := hb.setCell (p := ⟨g, o, none⟩) hD _
    obtain ⟨a, b, c⟩ := cleared hD m (o + 1) _ (row.set o 0) h1 (fun j hj => by
      rw [List.getElem?_set]
      split
      · split <;> rfl
      · exact h0 j (by omega)) (by rw [List.length_set]; omega) hb1
    rw [List.length_set] at a
    exact ⟨a, b, fun k hk => (c k hk).trans (Below.heap_setCell W ⟨g, o, none⟩ _ k hk)⟩
theorem run_clear_row (W : World) (ty : TypeId) (g N : Nat) (row : List Int) (h : RowZ W g row) (hN : row.length = N) (h0 : 0 < N) :
    (Builtin.clear_ #[77] ty #[.slice (some ⟨g, 0, none⟩) N N]).run Try.prog W = .ok (.tuple #[]) (W.setCells g 0 (List.replicate N (.int .i64 0))) := by
  obtain ⟨i0, hi, hz0, hz1, hz2⟩ := info_parts infoI64
  exact Lib.run_clear_slice (P := Try.prog) W 77 2 ty (.int .i64 0) Try.underlying77 (fun w => by simp [zeroValue, typeInfo, hi, hz0]) rfl rfl g 0 N N h0
    (fun j hj => by rw [Nat.zero_add, h.cell (by omega)]; rfl) (fun j _ => h.frozen)
/-- The first number of turns at which the sums are more than the most. -/
def overAt (most fill : List Int) (n : Nat) : Option Nat := (List.range (n + 1)).find? fun l => decide (most[l]?.getD 0 < fill[l]?.getD 0)
def brkAt (xs most : List Int) (k : Nat) : Option Nat := overAt most (fillR (xs.length + 1) (xs.drop k) (xs.length - k)) xs.length
def brkN (xs most : List Int) : Nat → Nat → Option (Nat × Nat)
  | _, 0 => none
  | k, m + 1 => match brkAt xs most k with
    | some l => some (k, l)
    | none => brkN xs most (k + 1) m
/-- The first turns at which a row breaks. -/
def brkF (xs most : List Int) : Option (Nat × Nat) := brkN xs most 0 xs.length
def brkV : Option (Nat × Nat) → Value
  | none => .tuple #[.int .i64 0, .int .i64 0, .bool false]
  | some (k, l) => .tuple #[.int .i64 (k : Int), .int .i64 (l : Int), .bool true]
theorem Row60.drop {xs : List Int} (h : Row60 xs) (k : Nat) : Row60 (xs.drop k) := by
  refine ⟨by rw [List.length_drop]; have := h.1; omega, fun j hj => ?_⟩
  rw [List.getElem?_drop]
  rw [List.length_drop] at hj
  exact h.2 (k + j) (by omega)
theorem overAt_some {most fill : List Int} {n l : Nat} (hl : l < n + 1) (h : most[l]?.getD 0 < fill[l]?.getD 0) (hall : ∀ j, j < l → ¬ most[j]?.getD 0 < fill[j]?.getD 0) : overAt most fill n = some l := by
  unfold overAt
  rw [List.find?_range_eq_some]
  exact ⟨decide_eq_true h, List.mem_range.2 hl, fun j hj => by simpa using hall j hj⟩
theorem overAt_none {most fill : List Int} {n : Nat} (hall : ∀ j, j < n + 1 → ¬ most[j]?.getD 0 < fill[j]?.getD 0) : overAt most fill n = none := by
  unfold overAt
  rw [List.find?_range_eq_none]
  intro j hj
  simpa using hall j hj
theorem breaks_results (W : World) (tmps : Array Value) (a b c : Value) (h4 : tmps.getD 4 undef = a) (h5 : tmps.getD 5 undef = b) (h6 : tmps.getD 6 undef = c) :
    (results Try.f72 tmps).run Try.prog W = .ok (.tuple #[a, b, c]) W := by
  simp only [Array.getD_eq_getD_getElem?] at h4 h5 h6
  simp [results, Try.results72, go_sem, h4, h5, h6]
set_option maxRecDepth 100000 in
set_option maxHeartbeats 16000000 in
theorem breaks_any (w : World) (A : Option Addr) (n c : Nat) (q : Nat → Int) (hv : Nums (fewL q)) (B : Nat) (A2 : Option Addr) (m c2 : Nat) (xs : List Int) (hx : IntsAt w B A2 m xs) (hB : B ≤ w.heap.size) (hr : Row60 xs) (hc : m ≤ c2) :
    Calls Try.prog 72 #[srcV A n c q, .slice A2 m c2] w fun e w' => e = .returned (brkV (brkF xs (sumsT (fewL q) m))) ∧ Below w.heap.size w w' := by
  have hm := hx.len
  have hm60 : m ≤ 60 := by have := hr.1; omega
  have hmks : ∀ W : World, (Instr.makeSlice 77 (.int .i64 ((m : Int) + 1)) (.int .i64 ((m : Int) + 1))).run Try.prog W = .ok (.slice (some ⟨W.heap.size, 0, none⟩) (m + 1) (m + 1)) (W.alloc (.cells ((List.replicate (m + 1) (0 : Int)).map (Value.int .i64)).toArray 2)) := fun W => by
    have := made_row (W := W) (N := m + 1) (by omega)
    rwa [show ((m + 1 : Nat) : Int) = (m : Int) + 1 by simp] at this
  obtain ⟨mc, hmc⟩ : ∃ mc, mc = ((List.replicate (m + 1) (0 : Int)).map (Value.int .i64)).toArray := ⟨_, rfl⟩
  rw [← hmc] at hmks
  have hwm : IntKind.i64.wrap ((m : Int) + 1) = (m : Int) + 1 := by rw [IntKind.wrap_i64]; omega
  obtain ⟨V, hV⟩ : ∃ V, V = w.alloc (.cells (srcC A n c q) 81) := ⟨_, rfl⟩
  have hb0 : Below w.heap.size w V := by rw [hV]; exact (Below.refl _ w).alloc (Nat.le_refl _) _
  have x2 : SrcAt V w.heap.size A n c q := by rw [hV]; exact SrcAt.new w A n c q
  obtain ⟨r, hre⟩ : ∃ r, r = brkF xs (sumsT (fewL q) m) := ⟨_, rfl⟩
  rw [← hre]
  have H := Lib.hid (And.intro hv (And.intro hr (And.intro hm (And.intro hre hmc))))
  clear hv hr hm hre hmc
  go_enter Try.func72, Try.ntmps72
  go_wp2_with (fail)
  rw [← hV]
  obtain ⟨p0, p1, p2, p3, p4, p5, p6, p7⟩ := x2.cells
  clear hV x2
  refine wp_scope_straight ?_
  go_wp2_with (fail)
  clear p0 p1 p2 p3 p4 p5 p6 p7
  refine (most_any V A n c m q H.out.1 (by omega)).mono ?_
  rintro e W1 ⟨gm, hgm, rfl, hmost, hb1⟩
  have hz0 := hb0.size
  have hB1 : Below w.heap.size w W1 := hb0.trans (hb1.mono hz0)
  have hml : (sumsT (fewL q) m).length = m + 1 := sumsT_len _ _
  obtain ⟨ms, hms⟩ : ∃ ms, ms = sumsT (fewL q) m := ⟨_, rfl⟩
  rw [← hms] at hmost hml
  have Hms := Lib.hid (And.intro hms hml)
  have hgz := hmost.lt
  have hb2 : Below w.heap.size w (W1.alloc (.cells mc 2)) := hB1.alloc hB1.size _
  have hmost2 := hmost.alloc (.cells mc 2)
  have hsum : RowZ (W1.alloc (.cells mc 2)) W1.heap.size (List.replicate (m + 1) 0) := by rw [RowZ, World.alloc_heap_new, H.out.2.2.2.2]
  clear hb1 hB1 hms hml hmost
  go_wp2_with (fail)
  refine wp_label ?_
  go_wp2_with (fail)
  obtain ⟨gs, hgs⟩ : ∃ gs, gs = W1.heap.size := ⟨_, rfl⟩
  rw [← hgs] at hsum hgz ⊢
  have hgs0 : w.heap.size ≤ gs := by rw [hgs]; omega
  obtain ⟨V2, hV2⟩ : ∃ V2, V2 = W1.alloc (.cells mc 2) := ⟨_, rfl⟩
  rw [← hV2] at hb2 hmost2 hsum ⊢
  clear hV2 hgs hgm hmks hwm hb0 hz0
  go_loopw [4, 5, 6, 22] (fun v4 v5 v6 i wr => ∃ (k : Nat) (row : List Int), (k ≤ m ∧ i = .int .i64 (k : Int) ∧ v4 = .int .i64 0 ∧ v5 = .int .i64 0 ∧ v6 = .bool false) ∧ RowZ wr gm ms ∧ RowZ wr gs row ∧ Hid (row.length = m + 1) ∧ Below w.heap.size w wr ∧ Hid (brkN xs ms k (m - k) = r)) (fun _ _ _ i _ => m - (intOf i).toNat)
  case atStart => exact ⟨0, _, ⟨by omega, rfl, rfl, rfl, rfl⟩, hmost2, hsum, Lib.hid (by simp), hb2, Lib.hid (by rw [H.out.2.2.2.1, Hms.out.1]; unfold brkF; rw [H.out.2.2.1]; rfl)⟩
  case round =>
    clear hmost2 hsum hb2
    obtain ⟨k, row, ⟨hk, rfl, rfl, rfl, rfl⟩, ym, ys, yl, yb, yr⟩ := hrel
    by_cases hlt : k < m
    case neg =>
      have hkm : m - k = 0 := by omega
      have hr := yr.out
      rw [hkm] at hr
      have Hr := Lib.hid hr
      clear hr hkm
      go_wp2_with (fail)
      simp only [Exit.noGoto]
      refine bodyPost_ret (v := .tuple #[.int .i64 0, .int .i64 0, .bool false]) (breaks_results _ _ _ _ _ (by simp) (by simp) (by simp)) rfl ?_
      exact ⟨by rw [← Hr.out]; rfl, yb⟩
    case pos =>
      have hcl := run_clear_row wr 0 gs (m + 1) row ys yl.out (by omega)
      obtain ⟨z1, z2, z3⟩ := cleared (D := w.heap.size) (w0 := w) hgs0 (m + 1) 0 wr row ys (fun j hj => by omega) (by rw [yl.out]; omega) yb
      rw [yl.out] at z1
      obtain ⟨W2, hW2⟩ : ∃ W2, W2 = wr.setCells gs 0 (List.replicate (m + 1) (.int .i64 0)) := ⟨_, rfl⟩
      rw [← hW2] at hcl z1 z2 z3
      have zm : RowZ W2 gm ms := (z3 gm (by omega)).trans ym
      clear hW2 z3
      obtain ⟨b, o, rfl, lb, -⟩ := hx.cell hlt
      have hxd := (hx.below z2 hB).drop (k := k) (by omega)
      go_wp2_with (fail)
      refine (fill_any W2 gs (m + 1) (m + 1) B (some ⟨b, o + k, none⟩) (m - k) (c2 - k) (xs.drop k) z1 hxd (by omega) (H.out.2.1.drop k) (by omega) (by omega)).mono ?_
      rintro e W3 ⟨rfl, y1, y2, -, y3⟩
      have hB3 : Below w.heap.size w W3 := z2.trans (y2.mono hgs0)
      have v1 : RowZ W3 gs (fillR (m + 1) (xs.drop k) (m - k)) := y1
      have vm : RowZ W3 gm ms := (y3 gm (by omega)).trans zm
      have hbk : brkAt xs ms k = overAt ms (fillR (m + 1) (xs.drop k) (m - k)) m := by unfold brkAt; rw [H.out.2.2.1]
      have hfl : (fillR (m + 1) (xs.drop k) (m - k)).length = m + 1 := fillR_len _ _ _
      obtain ⟨fl, hfle⟩ : ∃ fl, fl = fillR (m + 1) (xs.drop k) (m - k) := ⟨_, rfl⟩
      rw [← hfle] at v1 hbk hfl
      have hstep : r = match overAt ms fl m with | some l => some (k, l) | none => brkN xs ms (k + 1) (m - (k + 1)) := by
        rw [← yr.out, show m - k = (m - (k + 1)) + 1 by omega, ← hbk]
        rfl
      have Hs := Lib.hid (And.intro hstep hfl)
      clear hcl z1 z2 zm ys yl yb ym hxd y1 y2 y3 hbk hfl hfle hstep
      have hwk : IntKind.i64.wrap ((k : Int) + 1) = (k : Int) + 1 := by rw [IntKind.wrap_i64]; omega
      go_wp2_with (fail)
      go_loop [4, 5, 6, 33] (fun v4 v5 v6 i => ∃ l : Nat, (l ≤ m + 1 ∧ i = .int .i64 (l : Int) ∧ v4 = .int .i64 0 ∧ v5 = .int .i64 0 ∧ v6 = .bool false) ∧ Hid (∀ j, j < l → ¬ ms[j]?.getD 0 < fl[j]?.getD 0)) (fun _ _ _ i => m + 1 - (intOf i).toNat)
      case atStart => exact ⟨0, ⟨by omega, rfl, rfl, rfl, rfl⟩, Lib.hid (fun j hj => by omega)⟩
      case round =>
        obtain ⟨l, ⟨hl, rfl, rfl, rfl, rfl⟩, hall⟩ := hrel
        by_cases hlm : l < m + 1
        · have e1 := v1.cell (j := l) (by rw [Hs.out.2]; omega)
          have e2 := vm.cell (j := l) (by rw [Hms.out.2]; omega)
          have hl' : (l : Int) < (m : Int) + 1 := by omega
          by_cases hq : ms[l]?.getD 0 < fl[l]?.getD 0
          · have hov := overAt_some hlm hq hall.out
            have hr := Hs.out.1
            rw [hov] at hr
            have Hr := Lib.hid hr
            clear hr hov
            go_wp2_with (fail)
            refine bodyPost_ret (v := .tuple #[.int .i64 (k : Int), .int .i64 (l : Int), .bool true]) (breaks_results _ _ _ _ _ (by simp) (by simp) (by simp)) rfl ?_
            exact ⟨by rw [Hr.out]; rfl, hB3⟩
          · have Hq := Lib.hid hq
            have hwl : IntKind.i64.wrap ((l : Int) + 1) = (l : Int) + 1 := by rw [IntKind.wrap_i64]; omega
            go_wp2_with (fail)
            go_round
            case rel => exact ⟨l + 1, ⟨by omega, by go_num, rfl, rfl, rfl⟩, Lib.hid (fun j hj => by rcases Nat.lt_succ_iff_lt_or_eq.1 hj with h | rfl; exact hall.out j h; exact Hq.out)⟩
            case measure => simp [intOf]; omega
        · have hlm' : ¬ (l : Int) < (m : Int) + 1 := by omega
          have hov := overAt_none (most := ms) (fill := fl) (n := m) (fun j hj => hall.out j (by omega))
          have hr := Hs.out.1
          rw [hov] at hr
          have Hr := Lib.hid hr
          clear hr hov
          go_wp2_with (fail)
          go_roundw
          case rel => exact ⟨k + 1, fl, ⟨by omega, by go_num, rfl, rfl, rfl⟩, vm, v1, Lib.hid Hs.out.2, hB3, Lib.hid Hr.out.symm⟩
          case measure => simp [intOf]; omega
end Go.Proofs.Ytlgibckhkdggdaa
