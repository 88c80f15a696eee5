/- lag: the row of totals. -/
import Derived.Test.YtjidllaaokdjhaaLP
import Derived.ArgAppend
namespace Go.Proofs.Ytjidllaaokdjhaa
open Go.RowKit Go.Shelf

attribute [local go_sem] Oper.semAt_some

def difF (ts : List Int) (j : Nat) : Int := ts[j + 1]?.getD 0 - ts[j]?.getD 0
def difR (L : Nat) (ts : List Int) (k : Nat) : List Int := (List.range L).map fun j => if j < k then difF ts j else 0
theorem difR_len (L : Nat) (ts : List Int) (k : Nat) : (difR L ts k).length = L := by simp [difR]
theorem difR_zero (L : Nat) (ts : List Int) : difR L ts 0 = List.replicate L 0 := by
  refine List.ext_getElem (by simp [difR]) fun i h1 h2 => ?_
  simp [difR]
theorem difR_set {L : Nat} {ts : List Int} {k : Nat} : (difR L ts k).set k (difF ts k) = difR L ts (k + 1) := by
  refine List.ext_getElem (by simp [difR]) fun i h1 h2 => ?_
  simp only [difR, List.getElem_set, List.getElem_map, List.getElem_range]
  by_cases h : k = i
  · subst h
    rw [if_pos rfl, if_pos (by omega)]
  · rw [if_neg h]
    by_cases h' : i < k
    · rw [if_pos h', if_pos (by omega)]
    · rw [if_neg h', if_neg (by omega)]
theorem difR_take {L : Nat} {ts : List Int} {n : Nat} (h : n ≤ L) : (difR L ts n).take n = difR n ts n := by
  refine List.ext_getElem (by simp [difR]; omega) fun i h1 h2 => ?_
  simp [difR]
/-- The row of totals. -/
def difL (ts : List Int) (n : Nat) : List Int := difR n ts n
abbrev RoomAt (W : World) (b : Nat) (row : List Int) : Prop := W.heap[b]? = some (.cells (row.map (Value.int .i64)).toArray 131 (0, 0))
theorem RoomAt.lt {W : World} {b : Nat} {row : List Int} (h : RoomAt W b row) : b < W.heap.size := (Array.getElem?_eq_some_iff.1 h).1
theorem RoomAt.cell {W : World} {g j : Nat} {row : List Int} (h : RoomAt W g row) (hj : j < row.length) : W.cell? ⟨g, j, none⟩ = some (.int .i64 (row[j]?.getD 0)) := by
  simp [World.cell?, h, hj]
theorem RoomAt.frozen {W : World} {g j : Nat} {row : List Int} (h : RoomAt W g row) : W.frozen? ⟨g, j, none⟩ = false := by simp [World.frozen?, h]
theorem RoomAt.below {W W' : World} {g D : Nat} {row : List Int} (h : RoomAt W g row) (hb : Below D W W') (hD : g < D) : RoomAt W' g row := (hb.block g hD).trans h
theorem RoomAt.set {W : World} {g : Nat} {row : List Int} (h : RoomAt W g row) (j : Nat) (x : Int) : RoomAt (W.setCell ⟨g, j, none⟩ (.int .i64 x)) g (row.set j x) := by
  show (W.setCell ⟨g, j, none⟩ (.int .i64 x)).heap[g]? = _
  simp [World.setCell, Array.getElem?_modify, h, List.map_set]
theorem made_rowS {W : World} {N : Nat} (hN : N ≤ 1000000) : (Instr.makeSlice 22 (.int .i64 (N : Int)) (.int .i64 (N : Int))).run Try.prog W = .ok (.slice (some ⟨W.heap.size, 0, none⟩) N N) (W.alloc (.cells ((List.replicate N (0 : Int)).map (Value.int .i64)).toArray 2)) := by
  obtain ⟨i0, hi, hz0, hz1, hz2⟩ := info_parts infoI64
  have h := run_makeSlice (P := Try.prog) (w := W) 22 2 i0 (.int .i64 0) Try.underlying22 hi hz0 .i64 .i64 N N (by omega) (by omega) (by rw [hz1]; simp; omega) (by rw [hz2]; omega) (by omega)
  have e : madeCells (Value.int .i64 0).cells ((N : Int).toNat * i0.size) = ((List.replicate N (0 : Int)).map (Value.int .i64)).toArray := by
    rw [hz1]
    unfold madeCells
    apply Array.ext
    · simp
    · intro i h1 h2
      simp [Value.cells, Nat.mod_one]
  rw [e] at h
  exact h

theorem room_slice (W : World) (b n : Nat) (hn : n ≤ 60) : (Instr.sliceAt 131 (.pointer (some ⟨b, 0, none⟩)) none (some (.int .i64 0)) (some (.int .i64 (n : Int)))).run Try.prog W = .ok (.slice (some ⟨b, 0, none⟩) 0 n) W := by
  obtain ⟨i0, hi, hz0, hz1, hz2⟩ := info_parts infoI64
  have hal : Try.prog.arrayLen 131 = 60 := by kernel_rfl
  have hel : Try.prog.elem 131 = 2 := by kernel_rfl
  have h := run_sliceAt_array_hm (P := Try.prog) W 131 ⟨b, 0, none⟩ (by kernel_rfl) .i64 .i64 0 (n : Int) (by omega) (by omega) (by rw [hal]; omega)
  rw [h, hel]
  have hs : (sizeOf 2).run Try.prog W = .ok 1 W := by simp [sizeOf, typeInfo, hi, hz1]
  rw [hs]
  simp only [Result.andThen, slicedAt, Int.toNat_natCast, Nat.sub_zero, Int.toNat_zero, Nat.zero_mul]
  split <;> rfl
theorem room_zero : (#[.int .i64 0, .int .i64 0, .int .i64 0, .int .i64 0, .int .i64 0, .int .i64 0, .int .i64 0, .int .i64 0, .int .i64 0, .int .i64 0, .int .i64 0, .int .i64 0, .int .i64 0, .int .i64 0, .int .i64 0, .int .i64 0, .int .i64 0, .int .i64 0, .int .i64 0, .int .i64 0, .int .i64 0, .int .i64 0, .int .i64 0, .int .i64 0, .int .i64 0, .int .i64 0, .int .i64 0, .int .i64 0, .int .i64 0, .int .i64 0, .int .i64 0, .int .i64 0, .int .i64 0, .int .i64 0, .int .i64 0, .int .i64 0, .int .i64 0, .int .i64 0, .int .i64 0, .int .i64 0, .int .i64 0, .int .i64 0, .int .i64 0, .int .i64 0, .int .i64 0, .int .i64 0, .int .i64 0, .int .i64 0, .int .i64 0, .int .i64 0, .int .i64 0, .int .i64 0, .int .i64 0, .int .i64 0, .int .i64 0, .int .i64 0, .int .i64 0, .int .i64 0, .int .i64 0, .int .i64 0] : Array Value) = ((difR 60 [] 0).map (Value.int .i64)).toArray := by rw [difR_zero]; rfl
set_option maxRecDepth 100000 in
set_option maxHeartbeats 8000000 in
theorem row_any (w : World) (B : Nat) (A : Option Addr) (N n c : Nat) (ts : List Int) (hx : IntsAt w B A N ts) (hB : B ≤ w.heap.size) (hN1 : N ≤ n + 1) (hN2 : n + 1 ≤ N) (hn : n ≤ 60) (hd : ∀ k, k < n → -1000000000 ≤ difF ts k ∧ difF ts k ≤ 1000000000) :
    Calls Try.prog 74 #[.slice A N c] w fun e w' => ∃ g, w.heap.size ≤ g ∧ e = .returned (.slice (some ⟨g, 0, none⟩) n n) ∧ RowZ w' g (difL ts n) ∧ Below w.heap.size w w' := by
  have hwN : IntKind.i64.wrap ((N : Int) - 1) = (n : Int) := by rw [IntKind.wrap_i64]; omega
  have Hd := Lib.hid hd
  clear hd
  obtain ⟨zs, hzs⟩ : ∃ zs : Array Value, zs = #[.int .i64 0, .int .i64 0, .int .i64 0, .int .i64 0, .int .i64 0, .int .i64 0, .int .i64 0, .int .i64 0, .int .i64 0, .int .i64 0, .int .i64 0, .int .i64 0, .int .i64 0, .int .i64 0, .int .i64 0, .int .i64 0, .int .i64 0, .int .i64 0, .int .i64 0, .int .i64 0, .int .i64 0, .int .i64 0, .int .i64 0, .int .i64 0, .int .i64 0, .int .i64 0, .int .i64 0, .int .i64 0, .int .i64 0, .int .i64 0, .int .i64 0, .int .i64 0, .int .i64 0, .int .i64 0, .int .i64 0, .int .i64 0, .int .i64 0, .int .i64 0, .int .i64 0, .int .i64 0, .int .i64 0, .int .i64 0, .int .i64 0, .int .i64 0, .int .i64 0, .int .i64 0, .int .i64 0, .int .i64 0, .int .i64 0, .int .i64 0, .int .i64 0, .int .i64 0, .int .i64 0, .int .i64 0, .int .i64 0, .int .i64 0, .int .i64 0, .int .i64 0, .int .i64 0, .int .i64 0] := ⟨_, rfl⟩
  have hzr : zs = ((difR 60 ts 0).map (Value.int .i64)).toArray := by rw [hzs, room_zero, difR_zero, difR_zero]
  obtain ⟨V, hV⟩ : ∃ V, V = w.alloc (.cells #[.int .i64 0, .int .i64 0, .int .i64 0, .int .i64 0, .int .i64 0, .int .i64 0, .int .i64 0, .int .i64 0, .int .i64 0, .int .i64 0, .int .i64 0, .int .i64 0, .int .i64 0, .int .i64 0, .int .i64 0, .int .i64 0, .int .i64 0, .int .i64 0, .int .i64 0, .int .i64 0, .int .i64 0, .int .i64 0, .int .i64 0, .int .i64 0, .int .i64 0, .int .i64 0, .int .i64 0, .int .i64 0, .int .i64 0, .int .i64 0, .int .i64 0, .int .i64 0, .int .i64 0, .int .i64 0, .int .i64 0, .int .i64 0, .int .i64 0, .int .i64 0, .int .i64 0, .int .i64 0, .int .i64 0, .int .i64 0, .int .i64 0, .int .i64 0, .int .i64 0, .int .i64 0, .int .i64 0, .int .i64 0, .int .i64 0, .int .i64 0, .int .i64 0, .int .i64 0, .int .i64 0, .int .i64 0, .int .i64 0, .int .i64 0, .int .i64 0, .int .i64 0, .int .i64 0, .int .i64 0] 131) := ⟨_, rfl⟩
  have hb0 : Below w.heap.size w V := by rw [hV]; exact (Below.refl _ w).alloc (Nat.le_refl _) _
  have xr : RoomAt V w.heap.size (difR 60 ts 0) := by
    rw [hV, ← hzs, hzr]
    exact World.alloc_heap_new w _
  have hsl := room_slice V w.heap.size n hn
  rw [hV] at hsl
  clear hzs hzr
  have hsz : (Try.prog.info? 2).map (·.size) = some 1 := by kernel_rfl
  obtain ⟨i0, hi, hz0, hz1, hz2⟩ := info_parts infoI64
  have Hi := Lib.hid (And.intro hi (And.intro hz1 hsz))
  clear hi hz0 hz1 hz2 hsz
  go_enter Try.func74, Try.ntmps74
  go_wp2_with (fail)
  rw [← hV]
  clear hV hsl
  go_loopw [5, 14] (fun v5 i wr => ∃ k : Nat, k ≤ n ∧ i = .int .i64 (k : Int) ∧ v5 = .slice (some ⟨w.heap.size, 0, none⟩) k n ∧ RoomAt wr w.heap.size (difR 60 ts k) ∧ Below w.heap.size w wr) (fun _ i _ => n - (intOf i).toNat)
  case atStart => exact ⟨0, by omega, rfl, rfl, xr, hb0⟩
  case round =>
    clear xr hb0
    obtain ⟨k, hk, rfl, rfl, yr, hb⟩ := hrel
    by_cases hlt : k < n
    case neg =>
      have hkn : k = n := by omega
      subst hkn
      have hmks := fun W : World => made_rowS (W := W) (N := k) (by omega)
      obtain ⟨mc, hmc⟩ : ∃ mc, mc = ((List.replicate k (0 : Int)).map (Value.int .i64)).toArray := ⟨_, rfl⟩
      rw [← hmc] at hmks
      have hb1 : Below w.heap.size w (wr.alloc (.cells mc 2)) := hb.alloc hb.size _
      have hrm : RoomAt (wr.alloc (.cells mc 2)) w.heap.size (difR 60 ts k) := (Below.heap_alloc wr _ _ yr.lt).trans yr
      have hmr : (wr.alloc (.cells mc 2)).heap[wr.heap.size]? = some (.cells mc 2 (0, 0)) := World.alloc_heap_new wr _
      have hzl : w.heap.size < wr.heap.size := yr.lt
      have hmcs : mc.size = k := by rw [hmc]; simp
      have hcs : ((difL ts k).map (Value.int .i64)).length = k := by rw [List.length_map]; exact difR_len _ _ _
      have hcp := run_copy_row (P := Try.prog) (wr.alloc (.cells mc 2)) 22 22 3 2 wr.heap.size 0 k k ⟨w.heap.size, 0, none⟩ k k mc 2 ((difL ts k).map (Value.int .i64)) Try.underlying22 Hi.out.2.2 hmr (by rw [hcs]; exact (Nat.min_self k).symm)
        (fun j v hj => by
          have hjk : j < k := by have := (List.getElem?_eq_some_iff.1 hj).1; omega
          have h1 := hrm.cell (j := j) (by rw [difR_len]; omega)
          have h2 : (difR 60 ts k)[j]?.getD 0 = (difL ts k)[j]?.getD 0 := by
            unfold difL difR
            simp [hjk, show j < 60 by omega]
          rw [h2] at h1
          have h3 : j < (difL ts k).length := by unfold difL; rw [difR_len]; exact hjk
          simp only [List.getElem?_map, List.getElem?_eq_getElem h3, Option.map_some, Option.some.injEq] at hj
          subst hj
          simp only [List.getElem?_eq_getElem h3, Option.getD_some] at h1
          rw [show (⟨w.heap.size, 0, none⟩ : Addr).add j = ⟨w.heap.size, j, none⟩ by simp only [Addr.add]; split <;> simp_all]
          exact h1) (by omega) (by simp [Value.oneCell'])
      have hst := setRow_heap (wr.alloc (.cells mc 2)) wr.heap.size mc (mc.toList.take 0 ++ (difL ts k).map (Value.int .i64) ++ mc.toList.drop (0 + ((difL ts k).map (Value.int .i64)).length)).toArray _ _ hmr
      have hB2 : Below w.heap.size w ((wr.alloc (.cells mc 2)).setRow wr.heap.size (mc.toList.take 0 ++ (difL ts k).map (Value.int .i64) ++ mc.toList.drop (0 + ((difL ts k).map (Value.int .i64)).length)).toArray) := below_setRow hb1 (by omega) _
      obtain ⟨W2, hW2⟩ : ∃ W2, W2 = (wr.alloc (.cells mc 2)).setRow wr.heap.size (mc.toList.take 0 ++ (difL ts k).map (Value.int .i64) ++ mc.toList.drop (0 + ((difL ts k).map (Value.int .i64)).length)).toArray := ⟨_, rfl⟩
      rw [← hW2] at hcp hst hB2
      clear hW2
      have hfin : RowZ W2 wr.heap.size (difL ts k) := by
        rw [RowZ, hst]
        simp [hmcs, hcs]
      rw [hcs] at hcp
      clear hst hmr hrm hb1 hmc hcs hmcs
      go_wp2_with (fail)
      refine bodyPost_ret (results_tmp rfl _ _ _) rfl ?_
      exact ⟨wr.heap.size, by omega, rfl, hfin, hB2⟩
    case pos =>
      have hx1 := hx.below hb hB
      obtain ⟨b, o, rfl, lb, e1⟩ := hx1.cell (k := k) (by omega)
      obtain ⟨b', o', he, -, e2⟩ := hx1.cell (k := k + 1) (by omega)
      cases he
      have hwk : IntKind.i64.wrap ((k : Int) + 1) = ((k + 1 : Nat) : Int) := by rw [IntKind.wrap_i64]; omega
      have hd := Hd.out k hlt
      have hwd : IntKind.i64.wrap (ts[k + 1]?.getD 0 - ts[k]?.getD 0) = difF ts k := by unfold difF at hd ⊢; rw [IntKind.wrap_i64]; omega
      obtain ⟨x1, hx1e⟩ : ∃ x, x = ts[k]?.getD 0 := ⟨_, rfl⟩
      obtain ⟨x2, hx2e⟩ : ∃ x, x = ts[k + 1]?.getD 0 := ⟨_, rfl⟩
      obtain ⟨d, hde⟩ : ∃ d, d = difF ts k := ⟨_, rfl⟩
      rw [← hx1e] at e1 hwd
      rw [← hx2e] at e2 hwd
      rw [← hde] at hwd
      have Hde := Lib.hid hde
      clear hx1e hx2e hde hd
      have lb' : b < wr.heap.size := by have := hb.size; omega
      have d1 : ∀ W, Below wr.heap.size wr.drew W → W.cell? ⟨b, o + k, none⟩ = some (.int .i64 x1) := fun W h => (h.cell (p := ⟨b, o + k, none⟩) lb').trans e1
      have d2 : ∀ W, Below wr.heap.size wr.drew W → W.cell? ⟨b, o + (k + 1), none⟩ = some (.int .i64 x2) := fun W h => (h.cell (p := ⟨b, o + (k + 1), none⟩) lb').trans e2
      have hkN : k + 1 < N := by omega
      have hkN' : k < N := by omega
      go_wp2_with (fail)
      refine region_held_wp 1 (fun W' => Below wr.heap.size wr.drew W') (fun j => decide (j = 9)) (by kernel_rfl) ?_
      intro KR hKR
      have hS : Below wr.heap.size wr.drew wr.drew := Below.refl _ _
      refine wpAnyHI_takeW (i := 0) (v := .slice (some ⟨w.heap.size, 0, none⟩) k n) (some 17) rfl rfl (by kernel_rfl) (by kernel_rfl) (by kernel_rfl) (by kernel_rfl) (fun _ _ _ h => h) (.inl ⟨by kernel_rfl, fun W' hS' => ?_⟩) ?_
      · go_simp
      refine wpAnyHI_takeW (i := 1) (v := .slice (some ⟨b, o, none⟩) N c) (some 18) rfl rfl (by kernel_rfl) (by kernel_rfl) (by kernel_rfl) (by kernel_rfl) (fun _ _ _ h => h) (.inl ⟨by kernel_rfl, fun W' hS' => ?_⟩) ?_
      · go_simp
      refine wpAnyHI_takeW (i := 2) (v := .int .i64 (k : Int)) (some 19) rfl rfl (by kernel_rfl) (by kernel_rfl) (by kernel_rfl) (by kernel_rfl) (fun _ _ _ h => h) (.inl ⟨by kernel_rfl, fun W' hS' => ?_⟩) ?_
      · go_simp
      refine wpAnyHI_takeW (i := 3) (v := .int .i64 ((k + 1 : Nat) : Int)) (some 20) rfl rfl (by kernel_rfl) (by kernel_rfl) (by kernel_rfl) (by kernel_rfl) (fun _ _ _ h => h) (.inl ⟨by kernel_rfl, fun W' hS' => ?_⟩) ?_
      · go_simp
      refine wpAnyHI_takeW (i := 4) (v := .pointer (some ⟨b, o + (k + 1), none⟩)) (some 21) rfl rfl (by kernel_rfl) (by kernel_rfl) (by kernel_rfl) (by kernel_rfl) (fun _ _ _ h => h) (.inl ⟨by kernel_rfl, fun W' hS' => ?_⟩) ?_
      · go_simp; intro hx; exfalso; omega
      refine wpAnyHI_takeW (i := 6) (v := .slice (some ⟨b, o, none⟩) N c) (some 23) rfl rfl (by kernel_rfl) (by kernel_rfl) (by kernel_rfl) (by kernel_rfl) (fun _ _ _ h => h) (.inl ⟨by kernel_rfl, fun W' hS' => ?_⟩) ?_
      · go_simp
      refine wpAnyHI_takeW (i := 7) (v := .int .i64 (k : Int)) (some 24) rfl rfl (by kernel_rfl) (by kernel_rfl) (by kernel_rfl) (by kernel_rfl) (fun _ _ _ h => h) (.inl ⟨by kernel_rfl, fun W' hS' => ?_⟩) ?_
      · go_simp
      refine wpAnyHI_takeW (i := 8) (v := .pointer (some ⟨b, o + k, none⟩)) (some 25) rfl rfl (by kernel_rfl) (by kernel_rfl) (by kernel_rfl) (by kernel_rfl) (fun _ _ _ h => h) (.inl ⟨by kernel_rfl, fun W' hS' => ?_⟩) ?_
      · go_simp
      refine wpAnyHI_takeE (i := 5) (v := .int .i64 x2) (some 22) rfl rfl (by kernel_rfl) (by kernel_rfl) (by kernel_rfl) (by kernel_rfl) (by kernel_rfl) (fun _ _ _ h => h) hS (.inl ⟨by kernel_rfl, fun W' hS' => ?_⟩) ?_
      · have q := d2 W' hS'; go_simp
      refine wpAnyHI_takeE (i := 9) (v := .int .i64 x1) (some 26) rfl rfl (by kernel_rfl) (by kernel_rfl) (by kernel_rfl) (by kernel_rfl) (by kernel_rfl) (fun _ _ _ h => h) hS (.inl ⟨by kernel_rfl, fun W' hS' => ?_⟩) ?_
      · have q := d1 W' hS'; go_simp
      refine wpAnyHI_takeW (i := 10) (v := .int .i64 d) (some 27) rfl rfl (by kernel_rfl) (by kernel_rfl) (by kernel_rfl) (by kernel_rfl) (fun _ _ _ h => h) (.inl ⟨by kernel_rfl, fun W' hS' => ?_⟩) ?_
      · go_simp
      refine wpAnyHI_one (i := 11) rfl (by kernel_rfl) ?_
      intro K1 hK1
      go_simp
      refine hK1 _ _ ⟨fun h => absurd h (by simp), ?_⟩
      clear hK1 K1
      have hbd : Below w.heap.size w (wr.alloc (.cells #[.int .i64 d] 2)).drew := (hb.alloc hb.size _).trans (below_drew _)
      have hnw : Boxed (wr.alloc (.cells #[.int .i64 d] 2)).drew wr.heap.size 2 (.int .i64 d) := Boxed.new wr 2 (.int .i64 d)
      have hrm : RoomAt (wr.alloc (.cells #[.int .i64 d] 2)).drew w.heap.size (difR 60 ts k) := (Below.heap_alloc wr _ _ yr.lt).trans yr
      obtain ⟨W1, hW1⟩ : ∃ W1, W1 = (wr.alloc (.cells #[.int .i64 d] 2)).drew := ⟨_, rfl⟩
      rw [← hW1] at hbd hnw hrm ⊢
      clear hW1
      have hle : k + 1 ≤ n := by omega
      have hcn := hnw.cell
      have q1 := hrm.cell (j := k) (by rw [difR_len]; omega)
      have q2 := hrm.frozen (j := k)
      have hset := hrm.set k (difF ts k)
      rw [difR_set] at hset
      rw [← Hde.out] at hset
      have hbu : Below w.heap.size w (W1.setCell ⟨w.heap.size, k, none⟩ (.int .i64 d)) := hbd.setCell (p := ⟨w.heap.size, k, none⟩) (Nat.le_refl _) _
      clear hrm hnw hbd
      refine wpAnyHI_one (i := 12) rfl (by kernel_rfl) ?_
      intro K1 hK1
      go_simp
      refine hK1 _ _ ⟨fun h => absurd h (by simp), ?_⟩
      clear hK1 K1 hcn q1 q2
      obtain ⟨W2, hW2⟩ : ∃ W2, W2 = W1.setCell ⟨w.heap.size, k, none⟩ (.int .i64 d) := ⟨_, rfl⟩
      rw [← hW2] at hset hbu ⊢
      clear hW2
      refine wpAnyHI_one (i := 13) rfl (by kernel_rfl) ?_
      intro K1 hK1
      go_simp
      refine hK1 _ _ ⟨fun h => absurd h (by simp), ?_⟩
      clear hK1 K1
      refine wpAnyHI_end (by kernel_rfl) ?_
      show KR _ _
      go_simp
      refine hKR _ _ ?_
      go_wp2_with (fail)
      go_roundw
      case rel => exact ⟨k + 1, by omega, by go_num, rfl, hset, hbu⟩
      case measure => simp [intOf]; omega
end Go.Proofs.Ytjidllaaokdjhaa
