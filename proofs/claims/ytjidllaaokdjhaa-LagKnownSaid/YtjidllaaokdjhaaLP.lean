/- lag: what a shaft adds at least. -/
import Derived.Test.YtjidllaaokdjhaaLO
namespace Go.Proofs.Ytjidllaaokdjhaa
open Go.RowKit Go.Shelf

attribute [local go_sem] Oper.semAt_some

set_option maxRecDepth 100000 in
set_option maxHeartbeats 2000000 in
theorem added1_any (w : World) (b1 b2 B B' : Nat) (A A' : Option Addr) (n c n' c' : Nat) (came xs : List Int) (p r : Nat) (h1 : Boxed w b1 77 (.slice A n c)) (h2 : Boxed w b2 87 (.slice A' n' c'))
    (hc : IntsAt w B A n came) (hx : IntsAt w B' A' n' xs) (hB : B ≤ w.heap.size) (hB' : B' ≤ w.heap.size) (hv : Nums xs) (hp : p ≤ 1000) (hr : r < n)
    (hb : 0 ≤ came[r]?.getD 0 ∧ came[r]?.getD 0 ≤ 1000000000) :
    Calls Try.prog 105 #[cutV ((p : Int), (r : Int)), .pointer (some ⟨b1, 0, none⟩), .pointer (some ⟨b2, 0, none⟩)] w fun e W' => e = .returned (encI (came[r]?.getD 0 + leastF xs p)) ∧ Below w.heap.size w W' := by
  have hm := hc.small
  obtain ⟨b3, o3, rfl, l3, e3⟩ := hc.cell hr
  have l3' : b3 < w.heap.size := by omega
  have c1 := h1.cell
  have c2 := h2.cell
  have l1 := h1.lt
  have l2 := h2.lt
  have hlb := leastF_bound hv p
  obtain ⟨x, hxe⟩ : ∃ x, x = came[r]?.getD 0 := ⟨_, rfl⟩
  obtain ⟨y, hye⟩ : ∃ y, y = leastF xs p := ⟨_, rfl⟩
  rw [← hxe] at e3 hb ⊢
  rw [← hye] at hlb ⊢
  have e6 : IntKind.i64.wrap (x + y) = x + y := by rw [IntKind.wrap_i64]; omega
  have hcl : ∀ k, Calls Try.prog 93 #[.slice A' n' c', .int .i64 (p : Int)] ((w.alloc (.cells #[.int .i64 (p : Int), .int .i64 (r : Int)] 122)).drewN k) fun e w' => e = .returned (.int .i64 y) ∧ ∃ q, w' = ((w.alloc (.cells #[.int .i64 (p : Int), .int .i64 (r : Int)] 122)).drewN k).drewN q := fun k => by
    rw [hye]
    exact shaftLeast_any _ B' A' n' c' p xs ((hx.alloc hB' _).drewN _) hv hp
  have Hcl := Lib.hid hcl
  clear hxe hye hb hlb h1 h2 hc hcl hx hv hp
  unfold cutV encI
  go_enter Try.func105, Try.ntmps105
  go_wp2
  go_quiet ((go_at_call 93; exact Calls.quiet_of (Hcl.out _)))
  go_wp2
  go_ret
  exact ⟨by simp, ((Below.refl _ w).alloc (Nat.le_refl _) _).trans (below_drewN _ _)⟩

/-- The least that is added of what came up to a turn. -/
def addF (came xs : List Int) (t : Nat) : Int := (bestO (fun p : Part 0 t => came[t - p.1]?.getD 0 + leastF xs p.1) ltI (partsS 0 t)).getD 0
def addR (L : Nat) (came xs : List Int) (k : Nat) : List Int := (List.range L).map fun j => if j < k then addF came xs j else 0
theorem addR_len (L : Nat) (came xs : List Int) (k : Nat) : (addR L came xs k).length = L := by simp [addR]
theorem addR_zero (L : Nat) (came xs : List Int) : addR L came xs 0 = List.replicate L 0 := by
  refine List.ext_getElem (by simp [addR]) fun i h1 h2 => ?_
  simp [addR]
theorem addR_set {L : Nat} {came xs : List Int} {k : Nat} : (addR L came xs k).set k (addF came xs k) = addR L came xs (k + 1) := by
  refine List.ext_getElem (by simp [addR]) fun i h1 h2 => ?_
  simp only [addR, List.getElem_set, List.getElem_map, List.getElem_range]
  by_cases h : k = i
  · subst h
    rw [if_pos rfl, if_pos (by omega)]
  · rw [if_neg h]
    by_cases h' : i < k
    · rw [if_pos h', if_pos (by omega)]
    · rw [if_neg h', if_neg (by omega)]
def addL (came xs : List Int) : List Int := addR came.length came xs came.length
theorem addL_get {came xs : List Int} {t : Nat} (ht : t < came.length) : (addL came xs)[t]?.getD 0 = addF came xs t := by simp [addL, addR, ht]
theorem addL_len (came xs : List Int) : (addL came xs).length = came.length := addR_len _ _ _ _

set_option maxRecDepth 100000 in
set_option maxHeartbeats 8000000 in
theorem added_any (w : World) (B B' : Nat) (A A' : Option Addr) (n c n' c' : Nat) (came xs : List Int)
    (hc : IntsAt w B A n came) (hx : IntsAt w B' A' n' xs) (hB : B ≤ w.heap.size) (hB' : B' ≤ w.heap.size) (hv : Nums xs) (hn : n ≤ 1000) (hb : ∀ j, j < n → 0 ≤ came[j]?.getD 0 ∧ came[j]?.getD 0 ≤ 1000000000) :
    Calls Try.prog 75 #[.slice A' n' c', .slice A n c] w fun e w' => ∃ g, w.heap.size ≤ g ∧ e = .returned (.slice (some ⟨g, 0, none⟩) n n) ∧ RowZ w' g (addL came xs) ∧ Below w.heap.size w w' := by
  have hlen := hc.len
  have hmks : ∀ W : World, (Instr.makeSlice 77 (.int .i64 (n : Int)) (.int .i64 (n : Int))).run Try.prog W = .ok (.slice (some ⟨W.heap.size, 0, none⟩) n n) (W.alloc (.cells ((List.replicate n (0 : Int)).map (Value.int .i64)).toArray 2)) := fun W => made_row (W := W) (N := n) (by omega)
  obtain ⟨mc, hmc⟩ : ∃ mc, mc = ((List.replicate n (0 : Int)).map (Value.int .i64)).toArray := ⟨_, rfl⟩
  rw [← hmc] at hmks
  obtain ⟨V, hV⟩ : ∃ V, V = ((w.alloc (.cells #[.slice A' n' c'] 87)).alloc (.cells #[.slice A n c] 77)).alloc (.cells mc 2) := ⟨_, rfl⟩
  have hb0 : Below w.heap.size w V := by rw [hV]; exact (((Below.refl _ w).alloc (Nat.le_refl _) _).alloc (by simp) _).alloc (by simp; omega) _
  have x2 : Boxed V w.heap.size 87 (.slice A' n' c') := by rw [hV]; exact ((Boxed.new w 87 (.slice A' n' c')).alloc _).alloc _
  have x3 : Boxed V (w.heap.size + 1) 77 (.slice A n c) := by
    rw [hV]
    have := (Boxed.new (w.alloc (.cells #[.slice A' n' c'] 87)) 77 (.slice A n c)).alloc (.cells mc 2)
    simpa using this
  have xr : RowZ V (w.heap.size + 1 + 1) (addR n came xs 0) := by
    rw [hV, addR_zero]
    have := (World.alloc_heap_new ((w.alloc (.cells #[.slice A' n' c'] 87)).alloc (.cells #[.slice A n c] 77)) (.cells mc 2))
    rw [World.size_alloc, World.size_alloc] at this
    rw [RowZ, this, hmc]
  have Hv := Lib.hid (And.intro hv (And.intro hb hlen))
  clear hmc hv hb hlen
  go_enter Try.func75, Try.ntmps75
  go_wp2_with (fail)
  rw [← hV]
  clear hV hmks
  go_loopw [12] (fun i wr => ∃ t : Nat, t ≤ n ∧ i = .int .i64 (t : Int) ∧ Boxed wr w.heap.size 87 (.slice A' n' c') ∧ Boxed wr (w.heap.size + 1) 77 (.slice A n c) ∧ RowZ wr (w.heap.size + 1 + 1) (addR n came xs t) ∧ Below w.heap.size w wr) (fun i _ => n - (intOf i).toNat)
  case atStart => exact ⟨0, by omega, rfl, x2, x3, xr, hb0⟩
  case round =>
    clear x2 x3 xr hb0
    obtain ⟨t, ht, rfl, y2, y3, yr, hb⟩ := hrel
    by_cases hlt : t < n
    case neg =>
      have htn : t = n := by omega
      rw [htn] at yr
      have hal : addR n came xs n = addL came xs := by unfold addL; rw [Hv.out.2.2]
      rw [hal] at yr
      clear htn hal
      go_wp2_with (fail)
      refine bodyPost_ret (results_tmp rfl _ _ _) rfl ?_
      exact ⟨w.heap.size + 1 + 1, by omega, rfl, yr, hb⟩
    case pos =>
      have hwt : IntKind.i64.wrap ((t : Int) + 1) = (t : Int) + 1 := by rw [IntKind.wrap_i64]; omega
      go_wp2_with (fail)
      refine (cuts_box (t : Int) 0 (t : Int) _).mono ?_
      rintro e W1 ⟨bl, bh, bt, rfl, hbl, hbh, hbt, hb1⟩
      have hB1 : Below w.heap.size w W1 := hb.trans (hb1.mono hb.size)
      have z2 := bxBelow y2 hb1 y2.lt
      have z3 := bxBelow y3 hb1 y3.lt
      have zr := yr.below hb1 yr.lt
      have hz1 := hB1.size
      have hit := cuts1_any W1 bl bh bt W1.heap.size 0 t t hbl hbh hbt (Nat.le_refl _) (by omega) (by omega) (by omega) t (by omega)
      have hval : ValFn W1 105 #[] #[.pointer (some ⟨w.heap.size + 1, 0, none⟩), .pointer (some ⟨w.heap.size, 0, none⟩)] (fun x : Part 0 t => cutV ((x.1 : Int), (t : Int) - (x.1 : Int))) encI (fun x => came[t - x.1]?.getD 0 + leastF xs x.1) := by
        refine ⟨enters_of Try.func105 (by kernel_rfl) rfl, fun W x hW => ?_⟩
        have hm := parts_mem.1 x.2
        have hrt : (t : Int) - (x.1 : Int) = ((t - x.1 : Nat) : Int) := by omega
        have hsz := hW.size
        have key := added1_any W (w.heap.size + 1) w.heap.size B B' A A' n c n' c' came xs x.1 (t - x.1) (bxBelow z3 hW z3.lt) (bxBelow z2 hW z2.lt) ((hc.below hB1 hB).below hW (by omega)) ((hx.below hB1 hB').below hW (by omega)) (by omega) (by omega) Hv.out.1 (by omega) (by omega) (Hv.out.2.1 _ (by omega))
        rw [← hrt] at key
        exact key
      go_wp2_with (fail)
      refine (bestCut_any W1 113 _ (fun x : Part 0 t => ((x.1 : Int), (t : Int) - (x.1 : Int))) _ _ _ _ _ _ _ _ _ ltI (enters_of Try.func113 (by kernel_rfl) rfl) hit (by
        rintro k ((rfl | rfl) | rfl)
        · exact hbl.lt
        · exact hbh.lt
        · exact hbt.lt) hval less_fn).mono ?_
      rintro e W2 ⟨rfl, hb2⟩
      have hB2 : Below w.heap.size w W2 := hB1.trans (hb2.mono hz1)
      have v2 := bxBelow z2 hb2 z2.lt
      have v3 := bxBelow z3 hb2 z3.lt
      have vr := zr.below hb2 zr.lt
      have hnx : bestV (bestO (fun x : Part 0 t => came[t - x.1]?.getD 0 + leastF xs x.1) ltI (partsS 0 t)) = .int .i64 (addF came xs t) := rfl
      rw [hnx]
      have hset := addR_set (L := n) (came := came) (xs := xs) (k := t)
      have ur := vr.set t (addF came xs t)
      rw [hset] at ur
      have k1 := vr.cell (j := t) (by rw [addR_len]; omega)
      have k2 := vr.frozen (j := t)
      clear hnx z2 z3 zr hb1 hb2 hbl hbh hbt y2 y3 yr hit hval hset vr
      obtain ⟨nx, hnx⟩ : ∃ nx, nx = addF came xs t := ⟨_, rfl⟩
      rw [← hnx] at ur ⊢
      clear hnx
      have u2 := bxOther v2 (b := w.heap.size + 1 + 1) (by omega) t (.int .i64 nx)
      have u3 := bxOther v3 (b := w.heap.size + 1 + 1) (by omega) t (.int .i64 nx)
      have hBu : Below w.heap.size w (W2.setCell ⟨w.heap.size + 1 + 1, t, none⟩ (.int .i64 nx)) := hB2.setCell (p := ⟨w.heap.size + 1 + 1, t, none⟩) (by show w.heap.size ≤ w.heap.size + 1 + 1; omega) _
      clear v2 v3 hB2
      go_wp2_with (fail)
      go_roundw
      case rel => exact ⟨t + 1, by omega, by go_num, u2, u3, ur, hBu⟩
      case measure => simp [intOf]; omega
end Go.Proofs.Ytjidllaaokdjhaa
