/- lag: Behind. -/
import Derived.Test.YtjidllaaokdjhaaND
namespace Go.Proofs.Ytjidllaaokdjhaa
open Go.RowKit Go.Shelf

attribute [local go_sem] Oper.semAt_some

/-- What goes on behind a chain in t turns. -/
def behF (cs : List Int) (css : List (List Int)) (t : Nat) : Int := worstF (fewQ cs) (fun k => (cameL cs)[k + t]?.getD 0 - (goneL css)[k]?.getD 0)
def behR (L : Nat) (cs : List Int) (css : List (List Int)) (k : Nat) : List Int := (List.range L).map fun j => if j < k then behF cs css (j + 1) else 0
theorem behR_len (L : Nat) (cs : List Int) (css : List (List Int)) (k : Nat) : (behR L cs css k).length = L := by simp [behR]
theorem behR_zero (L : Nat) (cs : List Int) (css : List (List Int)) : behR L cs css 0 = List.replicate L 0 := by
  refine List.ext_getElem (by simp [behR]) fun i h1 h2 => ?_
  simp [behR]
theorem behR_set {L : Nat} {cs : List Int} {css : List (List Int)} {k : Nat} : (behR L cs css k).set k (behF cs css (k + 1)) = behR L cs css (k + 1) := by
  refine List.ext_getElem (by simp [behR]) fun i h1 h2 => ?_
  simp only [behR, List.getElem_set, List.getElem_map, List.getElem_range]
  by_cases h : k = i
  · subst h
    rw [if_pos rfl, if_pos (by omega)]
  · rw [if_neg h]
    by_cases h' : i < k
    · rw [if_pos h', if_pos (by omega)]
    · rw [if_neg h', if_neg (by omega)]
def BehindP (cs : List Int) (css : List (List Int)) (n0 : Nat) (w' : World) (e : Ending) : Prop :=
  (boardE cs css ≠ 0 ∧ e = .returned (.tuple #[.slice none 0 0, .int .i64 (boardE cs css)])) ∨
  (boardE cs css = 0 ∧ ∃ g : Nat, n0 ≤ g ∧ e = .returned (.tuple #[.slice (some ⟨g, 0, none⟩) cs.length cs.length, .int .i64 0]) ∧ RowZ w' g (behR cs.length cs css cs.length))
theorem Behind_results (W : World) (tmps : Array Value) (a b : Value) (h4 : tmps.getD 4 undef = a) (h5 : tmps.getD 5 undef = b) :
    (results Try.f44 tmps).run Try.prog W = .ok (.tuple #[a, b]) W := by
  simp only [Array.getD_eq_getD_getElem?] at h4 h5
  simp [results, Try.results44, go_sem, h4, h5]
set_option maxRecDepth 100000 in
set_option maxHeartbeats 8000000 in
theorem Behind_any (w : World) (B B2 : Nat) (A A2 : Option Addr) (n c K c2 : Nat) (xs : List Int) (css : List (List Int)) (hx : IntsAt w B A n xs) (hB : B ≤ w.heap.size) (hy : RowsAt w B2 A2 K css) (hB2 : B2 ≤ w.heap.size) :
    Calls Try.prog 44 #[.slice A n c, .slice A2 K c2] w fun e w' => BehindP xs css w.heap.size w' e ∧ Below w.heap.size w w' := by
  have hxl := hx.len
  go_enter Try.func44, Try.ntmps44
  go_wp2_with (fail)
  refine (boardOf_any w B B2 A A2 n c K c2 xs css hx hB hy hB2).mono ?_
  rintro e w1 ⟨hP, hb1⟩
  have hz1 := hb1.size
  obtain ⟨be, hbe⟩ : ∃ be, be = boardE xs css := ⟨_, rfl⟩
  rcases hP with ⟨h1, rfl⟩ | ⟨h1, g1, g2, hg1, hg2, rfl, q1, q2⟩
  · rw [← hbe] at h1 ⊢
    have hne : (be != 0) = true := by rw [bne_iff_ne]; exact h1
    have Hv := Lib.hid (And.intro hbe h1)
    have hb2 : Below w.heap.size w (w1.alloc (.cells (brdC none 0 0 (fun _ => 0) none none 0 0 0 0) 108)) := hb1.alloc hz1 _
    clear hbe h1 hb1 hxl
    go_wp2_with (fail)
    refine bodyPost_ret (v := .tuple #[.slice none 0 0, .int .i64 be]) (Behind_results _ _ _ _ (by simp) (by simp)) rfl ?_
    exact ⟨.inl ⟨by rw [← Hv.out.1]; exact Hv.out.2, by rw [← Hv.out.1]⟩, hb2⟩
  · obtain ⟨e1, e2⟩ := board_zero h1
    have hn6 : n ≤ 6 := by have := (curve_nums e1).2.1; omega
    obtain ⟨q, hq⟩ : ∃ q, q = fewQ xs := ⟨_, rfl⟩
    rw [← hq]
    have Hv := Lib.hid (And.intro hq (And.intro e1 (And.intro e2 (And.intro hxl h1))))
    obtain ⟨V, hV⟩ : ∃ V, V = w1.alloc (.cells (brdC A n c q (some ⟨g1, 0, none⟩) (some ⟨g2, 0, none⟩) 121 121 121 121) 108) := ⟨_, rfl⟩
    have hb2 : Below w.heap.size w V := by rw [hV]; exact hb1.alloc hz1 _
    have t6 : BrdAt V w1.heap.size A n c q (some ⟨g1, 0, none⟩) (some ⟨g2, 0, none⟩) 121 121 121 121 := by rw [hV]; exact BrdAt.new w1
    have p1 : RowZ V g1 (cameL xs) := by rw [hV]; exact q1.alloc _
    have p2 : RowZ V g2 (goneL css) := by rw [hV]; exact q2.alloc _
    have hmks := fun W : World => made_rowS (W := W) (N := n) (by omega)
    obtain ⟨mc, hmc⟩ : ∃ mc, mc = ((List.replicate n (0 : Int)).map (Value.int .i64)).toArray := ⟨_, rfl⟩
    rw [← hmc] at hmks
    obtain ⟨k0, -⟩ := t6.cells
    obtain ⟨V2, hV2⟩ : ∃ V2, V2 = V.alloc (.cells mc 2) := ⟨_, rfl⟩
    have hb3 : Below w.heap.size w V2 := by rw [hV2]; exact hb2.alloc hb2.size _
    have s6 : BrdAt V2 w1.heap.size A n c q (some ⟨g1, 0, none⟩) (some ⟨g2, 0, none⟩) 121 121 121 121 := by rw [hV2]; exact t6.alloc _
    have s1 : RowZ V2 g1 (cameL xs) := by rw [hV2]; exact p1.alloc _
    have s2 : RowZ V2 g2 (goneL css) := by rw [hV2]; exact p2.alloc _
    obtain ⟨gl, hgl⟩ : ∃ gl, gl = V.heap.size := ⟨_, rfl⟩
    have Hgl := Lib.hid (show gl = w1.heap.size + 1 by rw [hgl, hV]; simp)
    have sr : RowZ V2 gl (behR n xs css 0) := by rw [hV2, hgl, behR_zero, RowZ, World.alloc_heap_new, hmc]
    have hg6 : w1.heap.size < gl := by rw [hgl]; exact t6.lt
    have hgg1 : g1 < gl := by rw [hgl]; exact p1.lt
    have hgg2 : g2 < gl := by rw [hgl]; exact p2.lt
    clear hbe h1 hq e1 e2 q1 q2 hb1 p1 p2 t6 hmc hxl hgl
    go_wp2_with (fail)
    rw [← hV]
    clear hV
    go_wp2_with (fail)
    rw [← hV2, ← Hgl.out]
    clear hV2 k0 hmks hb2
    go_loopw [26] (fun i wr => ∃ k : Nat, (k ≤ n ∧ i = .int .i64 (k : Int)) ∧ BrdAt wr w1.heap.size A n c q (some ⟨g1, 0, none⟩) (some ⟨g2, 0, none⟩) 121 121 121 121 ∧ RowZ wr g1 (cameL xs) ∧ RowZ wr g2 (goneL css) ∧ RowZ wr gl (behR n xs css k) ∧ Below w.heap.size w wr) (fun i _ => n - (intOf i).toNat)
    case atStart => exact ⟨0, ⟨by omega, rfl⟩, s6, s1, s2, sr, hb3⟩
    case round =>
      clear s6 s1 s2 sr hb3
      obtain ⟨k, ⟨hk, rfl⟩, s6, s1, s2, sr, sb⟩ := hrel
      by_cases hlt : k < n
      case neg =>
        have hkn : k = n := by omega
        subst hkn
        go_wp2_with (fail)
        refine bodyPost_ret (v := .tuple #[.slice (some ⟨gl, 0, none⟩) k k, .int .i64 0]) (Behind_results _ _ _ _ (by simp) (by simp)) rfl ?_
        exact ⟨.inr ⟨Hv.out.2.2.2.2, gl, by omega, by rw [Hv.out.2.2.2.1], by rw [Hv.out.2.2.2.1]; exact sr⟩, sb⟩
      case pos =>
        obtain ⟨k0, k1, k2, k3, k4, k5, k6, k7, k8, k9⟩ := s6.cells
        have i1 := s1.ints (n := 121) (came_len _) (by omega)
        have i2 := s2.ints (n := 121) (gone_len _) (by omega)
        have hwk : IntKind.i64.wrap ((k : Int) + 1) = ((k + 1 : Nat) : Int) := by rw [IntKind.wrap_i64]; omega
        go_wp2_with (fail)
        clear k0 k1 k2 k3 k4 k5 k6 k7 k8 k9
        refine (behind_any wr A n c q wr.heap.size wr.heap.size (some ⟨g1, 0, none⟩) (some ⟨g2, 0, none⟩) (cameL xs) (goneL css) (k + 1) i1 i2 (Nat.le_refl _) (Nat.le_refl _) (by omega) (fun j hj => came_bound Hv.out.2.1 j hj) (fun j hj => gone_bound Hv.out.2.2.1 j hj)).mono ?_
        rintro e w3 ⟨rfl, hb5⟩
        have hsz := sb.size
        have r6 := s6.below hb5 s6.lt
        have r1 := s1.below hb5 s1.lt
        have r2 := s2.below hb5 s2.lt
        have rr := sr.below hb5 sr.lt
        have rb := sb.trans (hb5.mono hsz)
        have hbf : worstF q (fun j => (cameL xs)[j + (k + 1)]?.getD 0 - (goneL css)[j]?.getD 0) = behF xs css (k + 1) := by unfold behF; rw [← Hv.out.1]
        rw [hbf]
        have k1 := rr.cell (j := k) (by rw [behR_len]; exact hlt)
        have k2 := rr.frozen (j := k)
        have ur := rr.set k (behF xs css (k + 1))
        rw [behR_set] at ur
        obtain ⟨y, hy⟩ : ∃ y, y = behF xs css (k + 1) := ⟨_, rfl⟩
        rw [← hy] at ur ⊢
        have u6 : BrdAt (w3.setCell ⟨gl, k, none⟩ (.int .i64 y)) w1.heap.size A n c q (some ⟨g1, 0, none⟩) (some ⟨g2, 0, none⟩) 121 121 121 121 := (Below.heap_setCell _ ⟨gl, k, none⟩ _ _ (show w1.heap.size ≠ gl by omega)).trans r6
        have u1 := r1.other (b := gl) (by omega) k (.int .i64 y)
        have u2 := r2.other (b := gl) (by omega) k (.int .i64 y)
        have ub : Below w.heap.size w (w3.setCell ⟨gl, k, none⟩ (.int .i64 y)) := rb.setCell (p := ⟨gl, k, none⟩) (show w.heap.size ≤ gl by omega) _
        unfold encI
        clear hbf hy i1 i2 s6 s1 s2 sr sb hb5 r6 r1 r2 rr rb
        go_wp2_with (fail)
        go_roundw
        case rel => exact ⟨k + 1, ⟨by omega, by go_num⟩, u6, u1, u2, ur, ub⟩
        case measure => simp [intOf]; omega
end Go.Proofs.Ytjidllaaokdjhaa
