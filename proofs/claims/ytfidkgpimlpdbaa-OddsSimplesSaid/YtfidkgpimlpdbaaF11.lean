/- Parts of a proof: OU. -/
import Derived.Test.YtfidkgpimlpdbaaF10

/- odds: fair. -/
namespace Go.Proofs.Ytfidkgpimlpdbaa
open Go.RowKit Go.Shelf

def GF (m : Int) (qs : List Qt) : Nat → Rt := endR m qs false (1, 1)
def LF (m : Int) (qs : List Qt) : Nat → Rt := endR m qs true (0, 1)
def mixF (m : Int) (qs : List Qt) (k r : Nat) : Rt := if r < k then GF m qs r else LF m qs r
def rstF (m : Int) (qs : List Qt) (k : Nat) : Rt := restP (mixF m qs k) k m.toNat
def chF (m : Int) (qs : List Qt) (k r : Nat) : Rt := if r < k then GF m qs r else if r = k then rstF m qs k else LF m qs r
def okK (m : Int) (qs : List Qt) (k : Nat) : Bool := decide (0 ≤ (rstF m qs k).1) && qs.all fun q => fairF q.n q.d q.lay (chF m qs k q.r.toNat).1 (chF m qs k q.r.toNat).2
def fairK (m : Int) (qs : List Qt) : Option Nat := (List.range m.toNat).find? (okK m qs)
def fairV (m : Int) (qs : List Qt) (r : Nat) : Rt := match fairK m qs with | some k => chF m qs k r | none => (0, 0)
theorem bnd_le {n d : Int} (hn : 0 ≤ n ∧ n ≤ 190) (hd : 1 ≤ d ∧ d ≤ 10) : Chc (bndF n d) := by
  have h := bnd_ok hn hd
  have hm := rat_mul (n := d) (d := n + d)
  have hg := gcdZ_pos (a := d) (b := n + d) (by omega)
  refine ⟨h.1, ?_, h.2.2.1, by omega⟩
  unfold bndF
  refine Int.le_of_mul_le_mul_right (a := gcdZ d (n + d)) ?_ hg
  rw [← hm.1, ← hm.2]
  omega
theorem end_chc {m : Int} {qs : List Qt} {lay : Bool} {wo : Rt} (V : ValidM m qs) (hw : Chc wo) {r : Nat} (h : (r : Int) < m) : Chc (endR m qs lay wo r) := by
  unfold endR
  rw [if_pos h]
  split
  · rename_i e he
    have hl := (bestM_lt qs qs.length _ (List.mem_of_getElem? (mfind_at he).2)).1
    have := strict_ok V hl
    exact bnd_le this.1 this.2
  · exact hw
theorem mix_chc {m : Int} {qs : List Qt} (V : ValidM m qs) {k r : Nat} (h : (r : Int) < m) : Chc (mixF m qs k r) := by
  unfold mixF
  split
  · exact end_chc V (by unfold Chc; decide) h
  · exact end_chc V (by unfold Chc; decide) h
theorem rst_bd {m : Int} {qs : List Qt} (V : ValidM m qs) (k : Nat) : (-2000000000000 ≤ (rstF m qs k).1 ∧ (rstF m qs k).1 ≤ 2000000000000) ∧ 0 < (rstF m qs k).2 ∧ (rstF m qs k).2 ≤ 320000000000 := by
  have hm := V.few
  exact rest_few (by omega) fun r hr => mix_chc V (by omega)
theorem ch_bd {m : Int} {qs : List Qt} (V : ValidM m qs) (k : Nat) {r : Nat} (h : (r : Int) < m) : (-2000000000000 ≤ (chF m qs k r).1 ∧ (chF m qs k r).1 ≤ 2000000000000) ∧ 0 < (chF m qs k r).2 ∧ (chF m qs k r).2 ≤ 320000000000 := by
  unfold chF
  split
  · have := end_chc (lay := false) (wo := (1, 1)) V (by unfold Chc; decide) h
    unfold Chc at this
    unfold GF
    omega
  · split
    · exact rst_bd V k
    · have := end_chc (lay := true) (wo := (0, 1)) V (by unfold Chc; decide) h
      unfold Chc at this
      unfold LF
      omega
theorem fair_some {m : Int} {qs : List Qt} {k : Nat} (hk : (k : Int) < m) (h : okK m qs k = true) (hb : ∀ j, j < k → okK m qs j = false) : fairK m qs = some k := by
  unfold fairK
  rw [List.find?_range_eq_some]
  exact ⟨h, by rw [List.mem_range]; omega, fun j hj => by rw [hb j hj]; rfl⟩
theorem fair_none {m : Int} {qs : List Qt} {M : Nat} (hm : m = (M : Int)) (hb : ∀ j, j < M → okK m qs j = false) : fairK m qs = none := by
  unfold fairK
  rw [List.find?_range_eq_none]
  intro j hj
  rw [hb j (by omega)]
  rfl
theorem row_reads {w w0 : World} {kn ob rest : List KB} {sz g n c k : Nat} {T : TypeId} {vs : List Value} (hA : At w0 w kn (ob ++ rest) sz) (hr : RowV T k (.slice (some ⟨g, 0, none⟩) n c) n vs ob) : ReadsAt w (some ⟨g, 0, none⟩) vs := fun _ => ⟨_, rfl, fun j u hu => by
  rcases hr.2 with ⟨h, -⟩ | ⟨g', c', cur, h1, h2, h3, h4, h5, h6⟩
  · cases h
  · cases h1
    subst h2
    have hb := hA.rok ⟨g, .cells cur T (0, 0)⟩ (by simp)
    rw [add_place]
    refine cell_of_obj (a := ⟨g, 0 + j, none⟩) hb rfl ?_
    show cur[0 + j]? = some u
    rw [Nat.zero_add, ← hu, ← h6]
    have hj : j < n * k := by rw [← hr.1]; exact (List.getElem?_eq_some_iff.1 hu).1
    rw [List.getElem?_take_of_lt hj, Array.getElem?_toList]⟩
theorem block_reads {w : World} {g o : Nat} {cs : Array Value} {T : TypeId} {vs : List Value} (h : w.heap[g]? = some (.cells cs T (0, 0))) (hv : ∀ j u, vs[j]? = some u → cs[o + j]? = some u) : ReadsAt w (some ⟨g, o, none⟩) vs := fun _ => ⟨_, rfl, fun j u hu => by rw [add_place]; exact cell_of_obj (a := ⟨g, o + j, none⟩) h rfl (hv j u hu)⟩
set_option maxHeartbeats 4000000 in
set_option maxRecDepth 20000 in
theorem fair_any (w : World) (B : Nat) (m : Int) (A : Option Addr) (n c mb : Nat) (qs : List Qt) (hx : QtsAt w B A n qs) (hB : B ≤ w.heap.size) (V : ValidM m qs) (hm : MapAt sideV Nat idxV w mb (bestM qs qs.length)) (hml : mb < w.heap.size) :
    Calls Try.prog 92 #[.agg #[.int .i64 m, .slice A n c, .map (some mb)]] w fun e w' => e = .returned (.agg (rtC (fairV m qs))) ∧ Below w.heap.size w w' := by
  have hl := hx.1
  have hn9 := hx.2.1
  have hfew := V.few
  have hv12 := V.len
  have hq9 : ∃ M : Nat, m = (M : Int) := ⟨m.toNat, by omega⟩
  obtain ⟨M, hM⟩ := hq9
  refine enter 59 Try.func92 (by kernel_rfl) fun hA => ?_
  refine runS hA 6 [] xn on (by kernel_rfl) fun w1 hA => ?_
  refine scopeS hA rfl (NoG.fctx _ _ _ _ _) (by kernel_rfl) fun hA => ?_
  refine runS hA 4 [.k 0, .k 0, .k 0] xn on (by kernel_rfl) fun w2 hA => ?_
  refine callB hA [] on (ends_any w2 B m A n c mb qs true (0, 1) (hx.below hA.below hB) (Nat.le_trans hB hA.size) V (hm.below hA.below hml) (Nat.lt_of_lt_of_le hml hA.size)) (by kernel_rfl) fun w3 hb3 hA => ?_
  refine runS hA 8 (List.replicate 10 (.k 2) ++ [.k 0, .k 0, .k 0]) xn on (by kernel_rfl) fun w4 hA => ?_
  refine callB hA [] on (ends_any w4 B m A n c mb qs false (1, 1) (hx.below hA.below hB) (Nat.le_trans hB hA.size) V (hm.below hA.below hml) (Nat.lt_of_lt_of_le hml hA.size)) (by kernel_rfl) fun w5 hb5 hA => ?_
  refine runS hA 17 (List.replicate 10 (.k 3) ++ [.k 0]) xn on (by kernel_rfl) fun w6 hA => ?_
  refine loop (γ := Nat) (fun i => [(1, .pointer (some ⟨w.heap.size, 0, none⟩)), (2, .pointer (some ⟨w.heap.size + 1, 0, none⟩)), (3, .pointer (some ⟨w3.heap.size, 0, none⟩)), (4, .pointer (some ⟨w5.heap.size, 0, none⟩)), (17, .int .i64 m), (18, .int .i64 (i : Int))]) (fun i => [⟨w.heap.size, .cells #[.int .i64 m, .slice A n c, .map (some mb)] 100 (0, 0)⟩, ⟨w.heap.size + 1, .cells #[.int .i64 0, .int .i64 0, .int .i64 0, .int .i64 0, .int .i64 0, .int .i64 0, .int .i64 0, .int .i64 0, .int .i64 0, .int .i64 0] 111 (0, 0)⟩, ⟨w3.heap.size, .cells #[.int .i64 ((LF m qs 0).1), .int .i64 ((LF m qs 0).2), .int .i64 ((LF m qs 1).1), .int .i64 ((LF m qs 1).2), .int .i64 ((LF m qs 2).1), .int .i64 ((LF m qs 2).2), .int .i64 ((LF m qs 3).1), .int .i64 ((LF m qs 3).2), .int .i64 ((LF m qs 4).1), .int .i64 ((LF m qs 4).2)] 111 (0, 0)⟩, ⟨w5.heap.size, .cells #[.int .i64 ((GF m qs 0).1), .int .i64 ((GF m qs 0).2), .int .i64 ((GF m qs 1).1), .int .i64 ((GF m qs 1).2), .int .i64 ((GF m qs 2).1), .int .i64 ((GF m qs 2).2), .int .i64 ((GF m qs 3).1), .int .i64 ((GF m qs 3).2), .int .i64 ((GF m qs 4).1), .int .i64 ((GF m qs 4).2)] 111 (0, 0)⟩]) (fun _ => []) (fun g i wr => i ≤ M ∧ g = M - i ∧ ∀ j, j < i → okK m qs j = false) M 0 [true, true, true, true] hA (by kernel_rfl) (⟨by omega, rfl, fun j hj => absurd hj (by omega)⟩) ?_
  rintro _ i wr ⟨hi, rfl, hno⟩ J hJ hA
  by_cases hlt : i < M
  case neg =>
    refine runS hA 9 [.b false] xn (oc (dec_f (show ¬ ((i : Int) < m) by omega)) on) (by kernel_rfl) fun w7 hA => ?_
    refine leave hA (by kernel_rfl) fun hA => ?_
    refine runS hA 9 (List.replicate 10 (.k 1)) xn on (by kernel_rfl) fun w8 hA => ?_
    have hfn := fair_none hM (fun j hj => hno j (by omega))
    have h9 : fairV m qs = fun _ => (0, 0) := by funext r; unfold fairV; rw [hfn]
    exact ret (v := .agg #[.int .i64 0, .int .i64 0, .int .i64 0, .int .i64 0, .int .i64 0, .int .i64 0, .int .i64 0, .int .i64 0, .int .i64 0, .int .i64 0]) hA (List.replicate 10 (.k 1)) (by kernel_rfl) ⟨by rw [h9]; rfl, hA.below⟩
  case pos =>
    have hcase : i = 0 ∨ i = 1 ∨ i = 2 ∨ i = 3 ∨ i = 4 := by omega
    rcases hcase with rfl | rfl | rfl | rfl | rfl
    ·
      refine runS hA 23 [.b true] xn (oc (dec_t (show ((0 : Nat) : Int) < m by omega)) on) (by kernel_rfl) fun w7 hA => ?_
      refine draw hA [true, true, true, true, true] [0, 1, 2, 3, 4, 5, 6] (by kernel_rfl) (by kernel_rfl) fun hA => ?_
      refine runS hA 6 [.t 0, .t 1, .t 2, .t 3, .t 4, .t 5] xn on (by kernel_rfl) fun w8 hA => ?_
      have hLk := (hA.at_.ok ⟨w3.heap.size, .cells #[.int .i64 ((LF m qs 0).1), .int .i64 ((LF m qs 0).2), .int .i64 ((LF m qs 1).1), .int .i64 ((LF m qs 1).2), .int .i64 ((LF m qs 2).1), .int .i64 ((LF m qs 2).2), .int .i64 ((LF m qs 3).1), .int .i64 ((LF m qs 3).2), .int .i64 ((LF m qs 4).1), .int .i64 ((LF m qs 4).2)] 111 (0, 0)⟩ (List.mem_of_getElem? (i := 2) (by kernel_rfl)))
      have hGk := (hA.at_.ok ⟨w5.heap.size, .cells #[.int .i64 ((GF m qs 0).1), .int .i64 ((GF m qs 0).2), .int .i64 ((GF m qs 1).1), .int .i64 ((GF m qs 1).2), .int .i64 ((GF m qs 2).1), .int .i64 ((GF m qs 2).2), .int .i64 ((GF m qs 3).1), .int .i64 ((GF m qs 3).2), .int .i64 ((GF m qs 4).1), .int .i64 ((GF m qs 4).2)] 111 (0, 0)⟩ (List.mem_of_getElem? (i := 3) (by kernel_rfl)))
      refine appNDS (t := 114) (e := 23) (ty := 114) (z := .agg #[.int .i64 0, .int .i64 0]) (size := 2) (bytes := 16) (n := 0) (cap := 0) (m := 5) (cp := 5) (A := some ⟨w5.heap.size, 0, none⟩) (A' := some ⟨w3.heap.size, 0, none⟩) [] [.int .i64 ((LF m qs 0).1), .int .i64 ((LF m qs 0).2), .int .i64 ((LF m qs 1).1), .int .i64 ((LF m qs 1).2), .int .i64 ((LF m qs 2).1), .int .i64 ((LF m qs 2).2), .int .i64 ((LF m qs 3).1), .int .i64 ((LF m qs 3).2), .int .i64 ((LF m qs 4).1), .int .i64 ((LF m qs 4).2)] hA (by kernel_rfl) rfl (ReadsAt.nil _ _) (fun h9 => by cases h9) (Nat.le_refl _) rfl (block_reads (vs := [.int .i64 ((LF m qs 0).1), .int .i64 ((LF m qs 0).2), .int .i64 ((LF m qs 1).1), .int .i64 ((LF m qs 1).2), .int .i64 ((LF m qs 2).1), .int .i64 ((LF m qs 2).2), .int .i64 ((LF m qs 3).1), .int .i64 ((LF m qs 3).2), .int .i64 ((LF m qs 4).1), .int .i64 ((LF m qs 4).2)]) hLk (fun j u hu => by match j, hu with | 0, hu => exact hu | 1, hu => exact hu | 2, hu => exact hu | 3, hu => exact hu | 4, hu => exact hu | 5, hu => exact hu | 6, hu => exact hu | 7, hu => exact hu | 8, hu => exact hu | 9, hu => exact hu)) rfl (by omega) (by omega) (by omega) (by omega) fun g1 c1 w9 ob1 hr1 hA => ?_
      refine runS hA 1 [.b false] xn on (by kernel_rfl) fun w10 hA => ?_
      have hrr := row_reads (hA.atK [⟨w.heap.size, .cells #[.int .i64 m, .slice A n c, .map (some mb)] 100 (0, 0)⟩, ⟨w.heap.size + 1, .cells #[.int .i64 0, .int .i64 0, .int .i64 0, .int .i64 0, .int .i64 0, .int .i64 0, .int .i64 0, .int .i64 0, .int .i64 0, .int .i64 0] 111 (0, 0)⟩, ⟨w3.heap.size, .cells #[.int .i64 ((LF m qs 0).1), .int .i64 ((LF m qs 0).2), .int .i64 ((LF m qs 1).1), .int .i64 ((LF m qs 1).2), .int .i64 ((LF m qs 2).1), .int .i64 ((LF m qs 2).2), .int .i64 ((LF m qs 3).1), .int .i64 ((LF m qs 3).2), .int .i64 ((LF m qs 4).1), .int .i64 ((LF m qs 4).2)] 111 (0, 0)⟩, ⟨w5.heap.size, .cells #[.int .i64 ((GF m qs 0).1), .int .i64 ((GF m qs 0).2), .int .i64 ((GF m qs 1).1), .int .i64 ((GF m qs 1).2), .int .i64 ((GF m qs 2).1), .int .i64 ((GF m qs 2).2), .int .i64 ((GF m qs 3).1), .int .i64 ((GF m qs 3).2), .int .i64 ((GF m qs 4).1), .int .i64 ((GF m qs 4).2)] 111 (0, 0)⟩, ⟨wr.heap.size, .cells #[.int .i64 0, .int .i64 0, .int .i64 0, .int .i64 0, .int .i64 0, .int .i64 0, .int .i64 0, .int .i64 0, .int .i64 0, .int .i64 0] 111 (0, 0)⟩] (by kernel_rfl)) hr1
      refine cpyS (kn' := [⟨w.heap.size, .cells #[.int .i64 m, .slice A n c, .map (some mb)] 100 (0, 0)⟩, ⟨w.heap.size + 1, .cells #[.int .i64 0, .int .i64 0, .int .i64 0, .int .i64 0, .int .i64 0, .int .i64 0, .int .i64 0, .int .i64 0, .int .i64 0, .int .i64 0] 111 (0, 0)⟩, ⟨w3.heap.size, .cells #[.int .i64 ((LF m qs 0).1), .int .i64 ((LF m qs 0).2), .int .i64 ((LF m qs 1).1), .int .i64 ((LF m qs 1).2), .int .i64 ((LF m qs 2).1), .int .i64 ((LF m qs 2).2), .int .i64 ((LF m qs 3).1), .int .i64 ((LF m qs 3).2), .int .i64 ((LF m qs 4).1), .int .i64 ((LF m qs 4).2)] 111 (0, 0)⟩, ⟨w5.heap.size, .cells #[.int .i64 ((GF m qs 0).1), .int .i64 ((GF m qs 0).2), .int .i64 ((GF m qs 1).1), .int .i64 ((GF m qs 1).2), .int .i64 ((GF m qs 2).1), .int .i64 ((GF m qs 2).2), .int .i64 ((GF m qs 3).1), .int .i64 ((GF m qs 3).2), .int .i64 ((GF m qs 4).1), .int .i64 ((GF m qs 4).2)] 111 (0, 0)⟩, ⟨wr.heap.size, .cells #[.int .i64 ((LF m qs 0).1), .int .i64 ((LF m qs 0).2), .int .i64 ((LF m qs 1).1), .int .i64 ((LF m qs 1).2), .int .i64 ((LF m qs 2).1), .int .i64 ((LF m qs 2).2), .int .i64 ((LF m qs 3).1), .int .i64 ((LF m qs 3).2), .int .i64 ((LF m qs 4).1), .int .i64 ((LF m qs 4).2)] 111 (0, 0)⟩]) (t := 114) (t' := 114) (ty := 3) (e := 23) (z := .agg #[.int .i64 0, .int .i64 0]) (size := 2) (bytes := 16) (g := wr.heap.size) (o := 0) (dLen := 5) (dCap := 5) (sLen := 5) (sCap := c1) (j := 4) (A := some ⟨g1, 0, none⟩) (cur := #[.int .i64 0, .int .i64 0, .int .i64 0, .int .i64 0, .int .i64 0, .int .i64 0, .int .i64 0, .int .i64 0, .int .i64 0, .int .i64 0]) (T := 111) [.int .i64 ((LF m qs 0).1), .int .i64 ((LF m qs 0).2), .int .i64 ((LF m qs 1).1), .int .i64 ((LF m qs 1).2), .int .i64 ((LF m qs 2).1), .int .i64 ((LF m qs 2).2), .int .i64 ((LF m qs 3).1), .int .i64 ((LF m qs 3).2), .int .i64 ((LF m qs 4).1), .int .i64 ((LF m qs 4).2)] hA (by kernel_rfl) (by kernel_rfl) rfl hrr (by simp) rfl fun w11 hzc hA => ?_
      replace hA := hA.bare
      refine runS hA 8 ([.k 0, .k 0, .k 0] ++ List.replicate 10 (.k 4)) xn on (by kernel_rfl) fun w12 hA => ?_
      refine callB hA [] on (rest_any w12 m A n c (.map (some mb)) (mixF m qs 0) 0 V.few (fun r hr => mix_chc V hr)) (by kernel_rfl) fun w13 hb13 hA => ?_
      have hrb := rst_bd V 0
      refine runS hA 14 [.k 4, .k 4, .k 4, .t 0] xn on (by kernel_rfl) fun w14 hA => ?_
      by_cases ht1 : ((rstF m qs 0).1 : Int) < (0 : Int)
      case pos =>
        refine runS hA 9 [.b true, .v (.int .i64 1)] xn (oc (dec_t ht1) (oc (show (.int .i64 1 : Value) = .int .i64 1 from rfl) on)) (by kernel_rfl) fun w15 hA => ?_
        have hok : okK m qs 0 = false := by unfold okK; rw [decide_eq_false (by omega)]; rfl
        have hno2 : ∀ l, l < 1 → okK m qs l = false := fun l hl => by rcases Nat.lt_succ_iff_lt_or_eq.1 hl with h | rfl; exact hno l h; exact hok
        exact again hJ (M - 1) (1) [true, true, true, true, false] hA (by omega) (by kernel_rfl) (⟨by omega, rfl, hno2⟩)
      case neg =>
        refine runS hA 14 [.b false, .k 0] xn (oc (dec_f ht1) on) (by kernel_rfl) fun w15 hA => ?_
        have hAc := hA.atK [⟨w.heap.size, .cells #[.int .i64 m, .slice A n c, .map (some mb)] 100 (0, 0)⟩, ⟨w.heap.size + 1, .cells #[.int .i64 0, .int .i64 0, .int .i64 0, .int .i64 0, .int .i64 0, .int .i64 0, .int .i64 0, .int .i64 0, .int .i64 0, .int .i64 0] 111 (0, 0)⟩, ⟨w3.heap.size, .cells #[.int .i64 ((LF m qs 0).1), .int .i64 ((LF m qs 0).2), .int .i64 ((LF m qs 1).1), .int .i64 ((LF m qs 1).2), .int .i64 ((LF m qs 2).1), .int .i64 ((LF m qs 2).2), .int .i64 ((LF m qs 3).1), .int .i64 ((LF m qs 3).2), .int .i64 ((LF m qs 4).1), .int .i64 ((LF m qs 4).2)] 111 (0, 0)⟩, ⟨w5.heap.size, .cells #[.int .i64 ((GF m qs 0).1), .int .i64 ((GF m qs 0).2), .int .i64 ((GF m qs 1).1), .int .i64 ((GF m qs 1).2), .int .i64 ((GF m qs 2).1), .int .i64 ((GF m qs 2).2), .int .i64 ((GF m qs 3).1), .int .i64 ((GF m qs 3).2), .int .i64 ((GF m qs 4).1), .int .i64 ((GF m qs 4).2)] 111 (0, 0)⟩, ⟨wr.heap.size, .cells (rtC (chF m qs 0)) 111 (0, 0)⟩] (by kernel_rfl)
        refine reknow ⟨[⟨w.heap.size, .cells #[.int .i64 m, .slice A n c, .map (some mb)] 100 (0, 0)⟩, ⟨w.heap.size + 1, .cells #[.int .i64 0, .int .i64 0, .int .i64 0, .int .i64 0, .int .i64 0, .int .i64 0, .int .i64 0, .int .i64 0, .int .i64 0, .int .i64 0] 111 (0, 0)⟩, ⟨w3.heap.size, .cells #[.int .i64 ((LF m qs 0).1), .int .i64 ((LF m qs 0).2), .int .i64 ((LF m qs 1).1), .int .i64 ((LF m qs 1).2), .int .i64 ((LF m qs 2).1), .int .i64 ((LF m qs 2).2), .int .i64 ((LF m qs 3).1), .int .i64 ((LF m qs 3).2), .int .i64 ((LF m qs 4).1), .int .i64 ((LF m qs 4).2)] 111 (0, 0)⟩, ⟨w5.heap.size, .cells #[.int .i64 ((GF m qs 0).1), .int .i64 ((GF m qs 0).2), .int .i64 ((GF m qs 1).1), .int .i64 ((GF m qs 1).2), .int .i64 ((GF m qs 2).1), .int .i64 ((GF m qs 2).2), .int .i64 ((GF m qs 3).1), .int .i64 ((GF m qs 3).2), .int .i64 ((GF m qs 4).1), .int .i64 ((GF m qs 4).2)] 111 (0, 0)⟩, ⟨wr.heap.size, .cells (rtC (chF m qs 0)) 111 (0, 0)⟩], w15.heap.size, [], [], [], [], []⟩ hAc.resize (Nat.zero_le _) fun hA => ?_
        refine loop (γ := Nat) (fun j => [(1, .pointer (some ⟨w.heap.size, 0, none⟩)), (2, .pointer (some ⟨w.heap.size + 1, 0, none⟩)), (3, .pointer (some ⟨w3.heap.size, 0, none⟩)), (4, .pointer (some ⟨w5.heap.size, 0, none⟩)), (6, .pointer (some ⟨wr.heap.size, 0, none⟩)), (17, .int .i64 m), (18, .int .i64 0), (42, .slice A n c), (43, .int .i64 n), (44, .int .i64 (j : Int))]) (fun j => [⟨w.heap.size, .cells #[.int .i64 m, .slice A n c, .map (some mb)] 100 (0, 0)⟩, ⟨w.heap.size + 1, .cells #[.int .i64 0, .int .i64 0, .int .i64 0, .int .i64 0, .int .i64 0, .int .i64 0, .int .i64 0, .int .i64 0, .int .i64 0, .int .i64 0] 111 (0, 0)⟩, ⟨w3.heap.size, .cells #[.int .i64 ((LF m qs 0).1), .int .i64 ((LF m qs 0).2), .int .i64 ((LF m qs 1).1), .int .i64 ((LF m qs 1).2), .int .i64 ((LF m qs 2).1), .int .i64 ((LF m qs 2).2), .int .i64 ((LF m qs 3).1), .int .i64 ((LF m qs 3).2), .int .i64 ((LF m qs 4).1), .int .i64 ((LF m qs 4).2)] 111 (0, 0)⟩, ⟨w5.heap.size, .cells #[.int .i64 ((GF m qs 0).1), .int .i64 ((GF m qs 0).2), .int .i64 ((GF m qs 1).1), .int .i64 ((GF m qs 1).2), .int .i64 ((GF m qs 2).1), .int .i64 ((GF m qs 2).2), .int .i64 ((GF m qs 3).1), .int .i64 ((GF m qs 3).2), .int .i64 ((GF m qs 4).1), .int .i64 ((GF m qs 4).2)] 111 (0, 0)⟩, ⟨wr.heap.size, .cells (rtC (chF m qs 0)) 111 (0, 0)⟩]) (fun _ => []) (fun g j wt => j ≤ n ∧ g = n - j ∧ ∀ l, l < j → fairF (qs[l]?.getD noQ).n (qs[l]?.getD noQ).d (qs[l]?.getD noQ).lay (chF m qs 0 (qs[l]?.getD noQ).r.toNat).1 (chF m qs 0 (qs[l]?.getD noQ).r.toNat).2 = true) n 0 [true, true, true, true, true] hA (by kernel_rfl) (⟨by omega, rfl, fun l hl => absurd hl (by omega)⟩) ?_
        rintro _ j wt ⟨hj, rfl, hall⟩ J2 hJ2 hA
        by_cases hlj : j < n
        case neg =>
          have hok : okK m qs 0 = true := by
            unfold okK
            rw [decide_eq_true (by omega), Bool.true_and, List.all_eq_true]
            intro q hq
            have hq9 := List.mem_iff_getElem.1 hq
            obtain ⟨l, hl9, rfl⟩ := hq9
            have := hall l (by omega)
            rwa [List.getElem?_eq_getElem hl9] at this
          have hfs := fair_some (by omega) hok hno
          refine runS hA 9 [.b false] xn (oc (dec_f (show ¬ (((j : Int) : Int) < (n : Int)) by omega)) on) (by kernel_rfl) fun w16 hA => ?_
          refine leave hA (by kernel_rfl) fun hA => ?_
          refine runS hA 11 ([.y 4 (.int .i64 ((chF m qs 0 0).1)), .y 4 (.int .i64 ((chF m qs 0 0).2)), .y 4 (.int .i64 ((chF m qs 0 1).1)), .y 4 (.int .i64 ((chF m qs 0 1).2)), .y 4 (.int .i64 ((chF m qs 0 2).1)), .y 4 (.int .i64 ((chF m qs 0 2).2)), .y 4 (.int .i64 ((chF m qs 0 3).1)), .y 4 (.int .i64 ((chF m qs 0 3).2)), .y 4 (.int .i64 ((chF m qs 0 4).1)), .y 4 (.int .i64 ((chF m qs 0 4).2))] ++ List.replicate 10 (.k 1)) xn (oc (show (rtC (chF m qs 0))[0]? = some (.int .i64 ((chF m qs 0 0).1)) from rfl) (oc (show (rtC (chF m qs 0))[1]? = some (.int .i64 ((chF m qs 0 0).2)) from rfl) (oc (show (rtC (chF m qs 0))[2]? = some (.int .i64 ((chF m qs 0 1).1)) from rfl) (oc (show (rtC (chF m qs 0))[3]? = some (.int .i64 ((chF m qs 0 1).2)) from rfl) (oc (show (rtC (chF m qs 0))[4]? = some (.int .i64 ((chF m qs 0 2).1)) from rfl) (oc (show (rtC (chF m qs 0))[5]? = some (.int .i64 ((chF m qs 0 2).2)) from rfl) (oc (show (rtC (chF m qs 0))[6]? = some (.int .i64 ((chF m qs 0 3).1)) from rfl) (oc (show (rtC (chF m qs 0))[7]? = some (.int .i64 ((chF m qs 0 3).2)) from rfl) (oc (show (rtC (chF m qs 0))[8]? = some (.int .i64 ((chF m qs 0 4).1)) from rfl) (oc (show (rtC (chF m qs 0))[9]? = some (.int .i64 ((chF m qs 0 4).2)) from rfl) on)))))))))) (by kernel_rfl) fun w17 hA => ?_
          refine leave hA (by kernel_rfl) fun hA => ?_
          refine runS hA 2 [] xn on (by kernel_rfl) fun w18 hA => ?_
          have h9 : fairV m qs = chF m qs 0 := by funext r; unfold fairV; rw [hfs]
          exact ret (v := .agg #[.int .i64 ((chF m qs 0 0).1), .int .i64 ((chF m qs 0 0).2), .int .i64 ((chF m qs 0 1).1), .int .i64 ((chF m qs 0 1).2), .int .i64 ((chF m qs 0 2).1), .int .i64 ((chF m qs 0 2).2), .int .i64 ((chF m qs 0 3).1), .int .i64 ((chF m qs 0 3).2), .int .i64 ((chF m qs 0 4).1), .int .i64 ((chF m qs 0 4).2)]) hA (List.replicate 10 (.k 1)) (by kernel_rfl) ⟨by rw [h9]; rfl, hA.below⟩
        case pos =>
          have hq9 := hx.at (hlj)
          obtain ⟨b, off, rfl, hlb, hcb⟩ := hq9
          have k0 := hcb 0 _ rfl
          have k1 := hcb 1 _ rfl
          have k2 := hcb 2 _ rfl
          have k3 := hcb 3 _ rfl
          have hqv := V.all _ (get_mem (d := noQ) (show j < qs.length by omega))
          have hcb9 := ch_bd V 0 (r := (qs[j]?.getD noQ).r.toNat) (by omega)
          have hgt9 := rtC_get (f := chF m qs 0) (show (qs[j]?.getD noQ).r.toNat < 5 by omega)
          refine runS hA 20 ([.b true, .i, .x (.int .i64 ((qs[j]?.getD noQ).r)), .x (.int .i64 ((qs[j]?.getD noQ).n)), .x (.int .i64 ((qs[j]?.getD noQ).d)), .x (.bool ((qs[j]?.getD noQ).lay))] ++ List.replicate 4 (.k 5)) (xc (a := ⟨b, off + j * 4, none⟩) ⟨Nat.lt_of_lt_of_le hlb hB, k0⟩ (xc (a := ⟨b, off + j * 4 + 1, none⟩) ⟨Nat.lt_of_lt_of_le hlb hB, k1⟩ (xc (a := ⟨b, off + j * 4 + 2, none⟩) ⟨Nat.lt_of_lt_of_le hlb hB, k2⟩ (xc (a := ⟨b, off + j * 4 + 3, none⟩) ⟨Nat.lt_of_lt_of_le hlb hB, k3⟩ xn)))) (oc (dec_t (show (((j : Int) : Int) < (n : Int)) by omega)) (oc (show (0 : Int) ≤ ((j : Int) : Int) ∧ ((j : Int) : Int) < (n : Int) by omega) on)) (by kernel_rfl) fun w16 hA => ?_
          refine draw hA [true, true, true, true, true, true] [0, 1, 2, 3, 4, 5, 6] (by kernel_rfl) (by kernel_rfl) fun hA => ?_
          refine runS hA 5 ([.t 0] ++ List.replicate 4 (.k 5) ++ [.t 1, .t 2, .k 5, .t 3, .i, .t 4, .y 4 (.int .i64 ((chF m qs 0 (qs[j]?.getD noQ).r.toNat).1)), .y 4 (.int .i64 ((chF m qs 0 (qs[j]?.getD noQ).r.toNat).2))]) xn (oc (show (0 : Int) ≤ ((qs[j]?.getD noQ).r : Int) ∧ ((qs[j]?.getD noQ).r : Int) < (5 : Int) by omega) (oc (show (rtC (chF m qs 0))[0 + ((qs[j]?.getD noQ).r.toNat) * 2]? = some (.int .i64 ((chF m qs 0 (qs[j]?.getD noQ).r.toNat).1)) from hgt9.1) (oc (show (rtC (chF m qs 0))[0 + ((qs[j]?.getD noQ).r.toNat) * 2 + 1]? = some (.int .i64 ((chF m qs 0 (qs[j]?.getD noQ).r.toNat).2)) from hgt9.2) on))) (by kernel_rfl) fun w17 hA => ?_
          refine callB hA [] on (isFair_any w17 ((qs[j]?.getD noQ).r) ((qs[j]?.getD noQ).n) ((qs[j]?.getD noQ).d) ((qs[j]?.getD noQ).lay) ((chF m qs 0 (qs[j]?.getD noQ).r.toNat).1) ((chF m qs 0 (qs[j]?.getD noQ).r.toNat).2) (hqv.2.1) (hqv.2.2) ((by omega)) ((by omega))) (by kernel_rfl) fun w18 hb18 hA => ?_
          refine runS hA 3 [.t 6, .b true, .t 0] xn on (by kernel_rfl) fun w19 hA => ?_
          have hq9 := Bool.eq_false_or_eq_true ((fairF ((qs[j]?.getD noQ).n) ((qs[j]?.getD noQ).d) ((qs[j]?.getD noQ).lay) ((chF m qs 0 (qs[j]?.getD noQ).r.toNat).1) ((chF m qs 0 (qs[j]?.getD noQ).r.toNat).2)))
          rcases hq9 with ht2 | ht2
          ·
            refine runS hA 8 [.b false, .v (.int .i64 ((j : Int) + 1))] xn (oc (show Value.bool (!(fairF ((qs[j]?.getD noQ).n) ((qs[j]?.getD noQ).d) ((qs[j]?.getD noQ).lay) ((chF m qs 0 (qs[j]?.getD noQ).r.toNat).1) ((chF m qs 0 (qs[j]?.getD noQ).r.toNat).2))) = .bool false by rw [ht2] <;> rfl) (oc (show Value.int .i64 (IntKind.i64.wrap ((j : Int) + 1)) = .int .i64 ((j : Int) + 1) from wrp (by omega)) on)) (by kernel_rfl) fun w20 hA => ?_
            refine revals hA (rc 44 (show .int .i64 ((j : Int) + 1) = .int .i64 ((j + 1 : Nat) : Int) by rw [show ((j + 1 : Nat) : Int) = (j : Int) + 1 by omega]) rn) (by kernel_rfl) fun hA => ?_
            exact again hJ2 (n - (j + 1)) (j + 1) [true, true, true, true, true, false] hA (by omega) (by kernel_rfl) (⟨by omega, rfl, fun l hl => by rcases Nat.lt_succ_iff_lt_or_eq.1 hl with h | rfl; exact hall l h; exact ht2⟩)
          ·
            refine runS hA 4 [.b true] xn (oc (show Value.bool (!(fairF ((qs[j]?.getD noQ).n) ((qs[j]?.getD noQ).d) ((qs[j]?.getD noQ).lay) ((chF m qs 0 (qs[j]?.getD noQ).r.toNat).1) ((chF m qs 0 (qs[j]?.getD noQ).r.toNat).2))) = .bool true by rw [ht2] <;> rfl) on) (by kernel_rfl) fun w20 hA => ?_
            refine leave hA (by kernel_rfl) fun hA => ?_
            refine runS hA 8 [.v (.int .i64 1)] xn (oc (show (.int .i64 1 : Value) = .int .i64 1 from rfl) on) (by kernel_rfl) fun w21 hA => ?_
            have hok : okK m qs 0 = false := by
              unfold okK
              rw [Bool.and_eq_false_iff, List.all_eq_false]
              exact .inr ⟨_, get_mem (d := noQ) (show j < qs.length by omega), by rw [ht2]; decide⟩
            have hno2 : ∀ l, l < 1 → okK m qs l = false := fun l hl => by rcases Nat.lt_succ_iff_lt_or_eq.1 hl with h | rfl; exact hno l h; exact hok
            exact again hJ (M - 1) (1) [true, true, true, true, false, false] hA (by omega) (by kernel_rfl) (⟨by omega, rfl, hno2⟩)
    ·
      refine runS hA 23 [.b true] xn (oc (dec_t (show ((1 : Nat) : Int) < m by omega)) on) (by kernel_rfl) fun w7 hA => ?_
      refine draw hA [true, true, true, true, true] [0, 1, 2, 3, 4, 5, 6] (by kernel_rfl) (by kernel_rfl) fun hA => ?_
      refine runS hA 6 [.t 0, .t 1, .t 2, .t 3, .t 4, .t 5] xn on (by kernel_rfl) fun w8 hA => ?_
      have hLk := (hA.at_.ok ⟨w3.heap.size, .cells #[.int .i64 ((LF m qs 0).1), .int .i64 ((LF m qs 0).2), .int .i64 ((LF m qs 1).1), .int .i64 ((LF m qs 1).2), .int .i64 ((LF m qs 2).1), .int .i64 ((LF m qs 2).2), .int .i64 ((LF m qs 3).1), .int .i64 ((LF m qs 3).2), .int .i64 ((LF m qs 4).1), .int .i64 ((LF m qs 4).2)] 111 (0, 0)⟩ (List.mem_of_getElem? (i := 2) (by kernel_rfl)))
      have hGk := (hA.at_.ok ⟨w5.heap.size, .cells #[.int .i64 ((GF m qs 0).1), .int .i64 ((GF m qs 0).2), .int .i64 ((GF m qs 1).1), .int .i64 ((GF m qs 1).2), .int .i64 ((GF m qs 2).1), .int .i64 ((GF m qs 2).2), .int .i64 ((GF m qs 3).1), .int .i64 ((GF m qs 3).2), .int .i64 ((GF m qs 4).1), .int .i64 ((GF m qs 4).2)] 111 (0, 0)⟩ (List.mem_of_getElem? (i := 3) (by kernel_rfl)))
      refine appNDS (t := 114) (e := 23) (ty := 114) (z := .agg #[.int .i64 0, .int .i64 0]) (size := 2) (bytes := 16) (n := 1) (cap := 1) (m := 4) (cp := 4) (A := some ⟨w5.heap.size, 0, none⟩) (A' := some ⟨w3.heap.size, 2, none⟩) [.int .i64 ((GF m qs 0).1), .int .i64 ((GF m qs 0).2)] [.int .i64 ((LF m qs 1).1), .int .i64 ((LF m qs 1).2), .int .i64 ((LF m qs 2).1), .int .i64 ((LF m qs 2).2), .int .i64 ((LF m qs 3).1), .int .i64 ((LF m qs 3).2), .int .i64 ((LF m qs 4).1), .int .i64 ((LF m qs 4).2)] hA (by kernel_rfl) rfl (block_reads (vs := [.int .i64 ((GF m qs 0).1), .int .i64 ((GF m qs 0).2)]) hGk (fun j u hu => by match j, hu with | 0, hu => exact hu | 1, hu => exact hu)) (fun h9 => by cases h9) (Nat.le_refl _) rfl (block_reads (vs := [.int .i64 ((LF m qs 1).1), .int .i64 ((LF m qs 1).2), .int .i64 ((LF m qs 2).1), .int .i64 ((LF m qs 2).2), .int .i64 ((LF m qs 3).1), .int .i64 ((LF m qs 3).2), .int .i64 ((LF m qs 4).1), .int .i64 ((LF m qs 4).2)]) hLk (fun j u hu => by match j, hu with | 0, hu => exact hu | 1, hu => exact hu | 2, hu => exact hu | 3, hu => exact hu | 4, hu => exact hu | 5, hu => exact hu | 6, hu => exact hu | 7, hu => exact hu)) rfl (by omega) (by omega) (by omega) (by omega) fun g1 c1 w9 ob1 hr1 hA => ?_
      refine runS hA 1 [.b false] xn on (by kernel_rfl) fun w10 hA => ?_
      have hrr := row_reads (hA.atK [⟨w.heap.size, .cells #[.int .i64 m, .slice A n c, .map (some mb)] 100 (0, 0)⟩, ⟨w.heap.size + 1, .cells #[.int .i64 0, .int .i64 0, .int .i64 0, .int .i64 0, .int .i64 0, .int .i64 0, .int .i64 0, .int .i64 0, .int .i64 0, .int .i64 0] 111 (0, 0)⟩, ⟨w3.heap.size, .cells #[.int .i64 ((LF m qs 0).1), .int .i64 ((LF m qs 0).2), .int .i64 ((LF m qs 1).1), .int .i64 ((LF m qs 1).2), .int .i64 ((LF m qs 2).1), .int .i64 ((LF m qs 2).2), .int .i64 ((LF m qs 3).1), .int .i64 ((LF m qs 3).2), .int .i64 ((LF m qs 4).1), .int .i64 ((LF m qs 4).2)] 111 (0, 0)⟩, ⟨w5.heap.size, .cells #[.int .i64 ((GF m qs 0).1), .int .i64 ((GF m qs 0).2), .int .i64 ((GF m qs 1).1), .int .i64 ((GF m qs 1).2), .int .i64 ((GF m qs 2).1), .int .i64 ((GF m qs 2).2), .int .i64 ((GF m qs 3).1), .int .i64 ((GF m qs 3).2), .int .i64 ((GF m qs 4).1), .int .i64 ((GF m qs 4).2)] 111 (0, 0)⟩, ⟨wr.heap.size, .cells #[.int .i64 0, .int .i64 0, .int .i64 0, .int .i64 0, .int .i64 0, .int .i64 0, .int .i64 0, .int .i64 0, .int .i64 0, .int .i64 0] 111 (0, 0)⟩] (by kernel_rfl)) hr1
      refine cpyS (kn' := [⟨w.heap.size, .cells #[.int .i64 m, .slice A n c, .map (some mb)] 100 (0, 0)⟩, ⟨w.heap.size + 1, .cells #[.int .i64 0, .int .i64 0, .int .i64 0, .int .i64 0, .int .i64 0, .int .i64 0, .int .i64 0, .int .i64 0, .int .i64 0, .int .i64 0] 111 (0, 0)⟩, ⟨w3.heap.size, .cells #[.int .i64 ((LF m qs 0).1), .int .i64 ((LF m qs 0).2), .int .i64 ((LF m qs 1).1), .int .i64 ((LF m qs 1).2), .int .i64 ((LF m qs 2).1), .int .i64 ((LF m qs 2).2), .int .i64 ((LF m qs 3).1), .int .i64 ((LF m qs 3).2), .int .i64 ((LF m qs 4).1), .int .i64 ((LF m qs 4).2)] 111 (0, 0)⟩, ⟨w5.heap.size, .cells #[.int .i64 ((GF m qs 0).1), .int .i64 ((GF m qs 0).2), .int .i64 ((GF m qs 1).1), .int .i64 ((GF m qs 1).2), .int .i64 ((GF m qs 2).1), .int .i64 ((GF m qs 2).2), .int .i64 ((GF m qs 3).1), .int .i64 ((GF m qs 3).2), .int .i64 ((GF m qs 4).1), .int .i64 ((GF m qs 4).2)] 111 (0, 0)⟩, ⟨wr.heap.size, .cells #[.int .i64 ((GF m qs 0).1), .int .i64 ((GF m qs 0).2), .int .i64 ((LF m qs 1).1), .int .i64 ((LF m qs 1).2), .int .i64 ((LF m qs 2).1), .int .i64 ((LF m qs 2).2), .int .i64 ((LF m qs 3).1), .int .i64 ((LF m qs 3).2), .int .i64 ((LF m qs 4).1), .int .i64 ((LF m qs 4).2)] 111 (0, 0)⟩]) (t := 114) (t' := 114) (ty := 3) (e := 23) (z := .agg #[.int .i64 0, .int .i64 0]) (size := 2) (bytes := 16) (g := wr.heap.size) (o := 0) (dLen := 5) (dCap := 5) (sLen := 5) (sCap := c1) (j := 4) (A := some ⟨g1, 0, none⟩) (cur := #[.int .i64 0, .int .i64 0, .int .i64 0, .int .i64 0, .int .i64 0, .int .i64 0, .int .i64 0, .int .i64 0, .int .i64 0, .int .i64 0]) (T := 111) [.int .i64 ((GF m qs 0).1), .int .i64 ((GF m qs 0).2), .int .i64 ((LF m qs 1).1), .int .i64 ((LF m qs 1).2), .int .i64 ((LF m qs 2).1), .int .i64 ((LF m qs 2).2), .int .i64 ((LF m qs 3).1), .int .i64 ((LF m qs 3).2), .int .i64 ((LF m qs 4).1), .int .i64 ((LF m qs 4).2)] hA (by kernel_rfl) (by kernel_rfl) rfl hrr (by simp) rfl fun w11 hzc hA => ?_
      replace hA := hA.bare
      refine runS hA 8 ([.k 0, .k 0, .k 0] ++ List.replicate 10 (.k 4)) xn on (by kernel_rfl) fun w12 hA => ?_
      refine callB hA [] on (rest_any w12 m A n c (.map (some mb)) (mixF m qs 1) 1 V.few (fun r hr => mix_chc V hr)) (by kernel_rfl) fun w13 hb13 hA => ?_
      have hrb := rst_bd V 1
      refine runS hA 14 [.k 4, .k 4, .k 4, .t 0] xn on (by kernel_rfl) fun w14 hA => ?_
      by_cases ht3 : ((rstF m qs 1).1 : Int) < (0 : Int)
      case pos =>
        refine runS hA 9 [.b true, .v (.int .i64 2)] xn (oc (dec_t ht3) (oc (show (.int .i64 2 : Value) = .int .i64 2 from rfl) on)) (by kernel_rfl) fun w15 hA => ?_
        have hok : okK m qs 1 = false := by unfold okK; rw [decide_eq_false (by omega)]; rfl
        have hno2 : ∀ l, l < 2 → okK m qs l = false := fun l hl => by rcases Nat.lt_succ_iff_lt_or_eq.1 hl with h | rfl; exact hno l h; exact hok
        exact again hJ (M - 2) (2) [true, true, true, true, false] hA (by omega) (by kernel_rfl) (⟨by omega, rfl, hno2⟩)
      case neg =>
        refine runS hA 14 [.b false, .k 0] xn (oc (dec_f ht3) on) (by kernel_rfl) fun w15 hA => ?_
        have hAc := hA.atK [⟨w.heap.size, .cells #[.int .i64 m, .slice A n c, .map (some mb)] 100 (0, 0)⟩, ⟨w.heap.size + 1, .cells #[.int .i64 0, .int .i64 0, .int .i64 0, .int .i64 0, .int .i64 0, .int .i64 0, .int .i64 0, .int .i64 0, .int .i64 0, .int .i64 0] 111 (0, 0)⟩, ⟨w3.heap.size, .cells #[.int .i64 ((LF m qs 0).1), .int .i64 ((LF m qs 0).2), .int .i64 ((LF m qs 1).1), .int .i64 ((LF m qs 1).2), .int .i64 ((LF m qs 2).1), .int .i64 ((LF m qs 2).2), .int .i64 ((LF m qs 3).1), .int .i64 ((LF m qs 3).2), .int .i64 ((LF m qs 4).1), .int .i64 ((LF m qs 4).2)] 111 (0, 0)⟩, ⟨w5.heap.size, .cells #[.int .i64 ((GF m qs 0).1), .int .i64 ((GF m qs 0).2), .int .i64 ((GF m qs 1).1), .int .i64 ((GF m qs 1).2), .int .i64 ((GF m qs 2).1), .int .i64 ((GF m qs 2).2), .int .i64 ((GF m qs 3).1), .int .i64 ((GF m qs 3).2), .int .i64 ((GF m qs 4).1), .int .i64 ((GF m qs 4).2)] 111 (0, 0)⟩, ⟨wr.heap.size, .cells (rtC (chF m qs 1)) 111 (0, 0)⟩] (by kernel_rfl)
        refine reknow ⟨[⟨w.heap.size, .cells #[.int .i64 m, .slice A n c, .map (some mb)] 100 (0, 0)⟩, ⟨w.heap.size + 1, .cells #[.int .i64 0, .int .i64 0, .int .i64 0, .int .i64 0, .int .i64 0, .int .i64 0, .int .i64 0, .int .i64 0, .int .i64 0, .int .i64 0] 111 (0, 0)⟩, ⟨w3.heap.size, .cells #[.int .i64 ((LF m qs 0).1), .int .i64 ((LF m qs 0).2), .int .i64 ((LF m qs 1).1), .int .i64 ((LF m qs 1).2), .int .i64 ((LF m qs 2).1), .int .i64 ((LF m qs 2).2), .int .i64 ((LF m qs 3).1), .int .i64 ((LF m qs 3).2), .int .i64 ((LF m qs 4).1), .int .i64 ((LF m qs 4).2)] 111 (0, 0)⟩, ⟨w5.heap.size, .cells #[.int .i64 ((GF m qs 0).1), .int .i64 ((GF m qs 0).2), .int .i64 ((GF m qs 1).1), .int .i64 ((GF m qs 1).2), .int .i64 ((GF m qs 2).1), .int .i64 ((GF m qs 2).2), .int .i64 ((GF m qs 3).1), .int .i64 ((GF m qs 3).2), .int .i64 ((GF m qs 4).1), .int .i64 ((GF m qs 4).2)] 111 (0, 0)⟩, ⟨wr.heap.size, .cells (rtC (chF m qs 1)) 111 (0, 0)⟩], w15.heap.size, [], [], [], [], []⟩ hAc.resize (Nat.zero_le _) fun hA => ?_
        refine loop (γ := Nat) (fun j => [(1, .pointer (some ⟨w.heap.size, 0, none⟩)), (2, .pointer (some ⟨w.heap.size + 1, 0, none⟩)), (3, .pointer (some ⟨w3.heap.size, 0, none⟩)), (4, .pointer (some ⟨w5.heap.size, 0, none⟩)), (6, .pointer (some ⟨wr.heap.size, 0, none⟩)), (17, .int .i64 m), (18, .int .i64 1), (42, .slice A n c), (43, .int .i64 n), (44, .int .i64 (j : Int))]) (fun j => [⟨w.heap.size, .cells #[.int .i64 m, .slice A n c, .map (some mb)] 100 (0, 0)⟩, ⟨w.heap.size + 1, .cells #[.int .i64 0, .int .i64 0, .int .i64 0, .int .i64 0, .int .i64 0, .int .i64 0, .int .i64 0, .int .i64 0, .int .i64 0, .int .i64 0] 111 (0, 0)⟩, ⟨w3.heap.size, .cells #[.int .i64 ((LF m qs 0).1), .int .i64 ((LF m qs 0).2), .int .i64 ((LF m qs 1).1), .int .i64 ((LF m qs 1).2), .int .i64 ((LF m qs 2).1), .int .i64 ((LF m qs 2).2), .int .i64 ((LF m qs 3).1), .int .i64 ((LF m qs 3).2), .int .i64 ((LF m qs 4).1), .int .i64 ((LF m qs 4).2)] 111 (0, 0)⟩, ⟨w5.heap.size, .cells #[.int .i64 ((GF m qs 0).1), .int .i64 ((GF m qs 0).2), .int .i64 ((GF m qs 1).1), .int .i64 ((GF m qs 1).2), .int .i64 ((GF m qs 2).1), .int .i64 ((GF m qs 2).2), .int .i64 ((GF m qs 3).1), .int .i64 ((GF m qs 3).2), .int .i64 ((GF m qs 4).1), .int .i64 ((GF m qs 4).2)] 111 (0, 0)⟩, ⟨wr.heap.size, .cells (rtC (chF m qs 1)) 111 (0, 0)⟩]) (fun _ => []) (fun g j wt => j ≤ n ∧ g = n - j ∧ ∀ l, l < j → fairF (qs[l]?.getD noQ).n (qs[l]?.getD noQ).d (qs[l]?.getD noQ).lay (chF m qs 1 (qs[l]?.getD noQ).r.toNat).1 (chF m qs 1 (qs[l]?.getD noQ).r.toNat).2 = true) n 0 [true, true, true, true, true] hA (by kernel_rfl) (⟨by omega, rfl, fun l hl => absurd hl (by omega)⟩) ?_
        rintro _ j wt ⟨hj, rfl, hall⟩ J2 hJ2 hA
        by_cases hlj : j < n
        case neg =>
          have hok : okK m qs 1 = true := by
            unfold okK
            rw [decide_eq_true (by omega), Bool.true_and, List.all_eq_true]
            intro q hq
            have hq9 := List.mem_iff_getElem.1 hq
            obtain ⟨l, hl9, rfl⟩ := hq9
            have := hall l (by omega)
            rwa [List.getElem?_eq_getElem hl9] at this
          have hfs := fair_some (by omega) hok hno
          refine runS hA 9 [.b false] xn (oc (dec_f (show ¬ (((j : Int) : Int) < (n : Int)) by omega)) on) (by kernel_rfl) fun w16 hA => ?_
          refine leave hA (by kernel_rfl) fun hA => ?_
          refine runS hA 11 ([.y 4 (.int .i64 ((chF m qs 1 0).1)), .y 4 (.int .i64 ((chF m qs 1 0).2)), .y 4 (.int .i64 ((chF m qs 1 1).1)), .y 4 (.int .i64 ((chF m qs 1 1).2)), .y 4 (.int .i64 ((chF m qs 1 2).1)), .y 4 (.int .i64 ((chF m qs 1 2).2)), .y 4 (.int .i64 ((chF m qs 1 3).1)), .y 4 (.int .i64 ((chF m qs 1 3).2)), .y 4 (.int .i64 ((chF m qs 1 4).1)), .y 4 (.int .i64 ((chF m qs 1 4).2))] ++ List.replicate 10 (.k 1)) xn (oc (show (rtC (chF m qs 1))[0]? = some (.int .i64 ((chF m qs 1 0).1)) from rfl) (oc (show (rtC (chF m qs 1))[1]? = some (.int .i64 ((chF m qs 1 0).2)) from rfl) (oc (show (rtC (chF m qs 1))[2]? = some (.int .i64 ((chF m qs 1 1).1)) from rfl) (oc (show (rtC (chF m qs 1))[3]? = some (.int .i64 ((chF m qs 1 1).2)) from rfl) (oc (show (rtC (chF m qs 1))[4]? = some (.int .i64 ((chF m qs 1 2).1)) from rfl) (oc (show (rtC (chF m qs 1))[5]? = some (.int .i64 ((chF m qs 1 2).2)) from rfl) (oc (show (rtC (chF m qs 1))[6]? = some (.int .i64 ((chF m qs 1 3).1)) from rfl) (oc (show (rtC (chF m qs 1))[7]? = some (.int .i64 ((chF m qs 1 3).2)) from rfl) (oc (show (rtC (chF m qs 1))[8]? = some (.int .i64 ((chF m qs 1 4).1)) from rfl) (oc (show (rtC (chF m qs 1))[9]? = some (.int .i64 ((chF m qs 1 4).2)) from rfl) on)))))))))) (by kernel_rfl) fun w17 hA => ?_
          refine leave hA (by kernel_rfl) fun hA => ?_
          refine runS hA 2 [] xn on (by kernel_rfl) fun w18 hA => ?_
          have h9 : fairV m qs = chF m qs 1 := by funext r; unfold fairV; rw [hfs]
          exact ret (v := .agg #[.int .i64 ((chF m qs 1 0).1), .int .i64 ((chF m qs 1 0).2), .int .i64 ((chF m qs 1 1).1), .int .i64 ((chF m qs 1 1).2), .int .i64 ((chF m qs 1 2).1), .int .i64 ((chF m qs 1 2).2), .int .i64 ((chF m qs 1 3).1), .int .i64 ((chF m qs 1 3).2), .int .i64 ((chF m qs 1 4).1), .int .i64 ((chF m qs 1 4).2)]) hA (List.replicate 10 (.k 1)) (by kernel_rfl) ⟨by rw [h9]; rfl, hA.below⟩
        case pos =>
          have hq9 := hx.at (hlj)
          obtain ⟨b, off, rfl, hlb, hcb⟩ := hq9
          have k0 := hcb 0 _ rfl
          have k1 := hcb 1 _ rfl
          have k2 := hcb 2 _ rfl
          have k3 := hcb 3 _ rfl
          have hqv := V.all _ (get_mem (d := noQ) (show j < qs.length by omega))
          have hcb9 := ch_bd V 1 (r := (qs[j]?.getD noQ).r.toNat) (by omega)
          have hgt9 := rtC_get (f := chF m qs 1) (show (qs[j]?.getD noQ).r.toNat < 5 by omega)
          refine runS hA 20 ([.b true, .i, .x (.int .i64 ((qs[j]?.getD noQ).r)), .x (.int .i64 ((qs[j]?.getD noQ).n)), .x (.int .i64 ((qs[j]?.getD noQ).d)), .x (.bool ((qs[j]?.getD noQ).lay))] ++ List.replicate 4 (.k 5)) (xc (a := ⟨b, off + j * 4, none⟩) ⟨Nat.lt_of_lt_of_le hlb hB, k0⟩ (xc (a := ⟨b, off + j * 4 + 1, none⟩) ⟨Nat.lt_of_lt_of_le hlb hB, k1⟩ (xc (a := ⟨b, off + j * 4 + 2, none⟩) ⟨Nat.lt_of_lt_of_le hlb hB, k2⟩ (xc (a := ⟨b, off + j * 4 + 3, none⟩) ⟨Nat.lt_of_lt_of_le hlb hB, k3⟩ xn)))) (oc (dec_t (show (((j : Int) : Int) < (n : Int)) by omega)) (oc (show (0 : Int) ≤ ((j : Int) : Int) ∧ ((j : Int) : Int) < (n : Int) by omega) on)) (by kernel_rfl) fun w16 hA => ?_
          refine draw hA [true, true, true, true, true, true] [0, 1, 2, 3, 4, 5, 6] (by kernel_rfl) (by kernel_rfl) fun hA => ?_
          refine runS hA 5 ([.t 0] ++ List.replicate 4 (.k 5) ++ [.t 1, .t 2, .k 5, .t 3, .i, .t 4, .y 4 (.int .i64 ((chF m qs 1 (qs[j]?.getD noQ).r.toNat).1)), .y 4 (.int .i64 ((chF m qs 1 (qs[j]?.getD noQ).r.toNat).2))]) xn (oc (show (0 : Int) ≤ ((qs[j]?.getD noQ).r : Int) ∧ ((qs[j]?.getD noQ).r : Int) < (5 : Int) by omega) (oc (show (rtC (chF m qs 1))[0 + ((qs[j]?.getD noQ).r.toNat) * 2]? = some (.int .i64 ((chF m qs 1 (qs[j]?.getD noQ).r.toNat).1)) from hgt9.1) (oc (show (rtC (chF m qs 1))[0 + ((qs[j]?.getD noQ).r.toNat) * 2 + 1]? = some (.int .i64 ((chF m qs 1 (qs[j]?.getD noQ).r.toNat).2)) from hgt9.2) on))) (by kernel_rfl) fun w17 hA => ?_
          refine callB hA [] on (isFair_any w17 ((qs[j]?.getD noQ).r) ((qs[j]?.getD noQ).n) ((qs[j]?.getD noQ).d) ((qs[j]?.getD noQ).lay) ((chF m qs 1 (qs[j]?.getD noQ).r.toNat).1) ((chF m qs 1 (qs[j]?.getD noQ).r.toNat).2) (hqv.2.1) (hqv.2.2) ((by omega)) ((by omega))) (by kernel_rfl) fun w18 hb18 hA => ?_
          refine runS hA 3 [.t 6, .b true, .t 0] xn on (by kernel_rfl) fun w19 hA => ?_
          have hq9 := Bool.eq_false_or_eq_true ((fairF ((qs[j]?.getD noQ).n) ((qs[j]?.getD noQ).d) ((qs[j]?.getD noQ).lay) ((chF m qs 1 (qs[j]?.getD noQ).r.toNat).1) ((chF m qs 1 (qs[j]?.getD noQ).r.toNat).2)))
          rcases hq9 with ht4 | ht4
          ·
            refine runS hA 8 [.b false, .v (.int .i64 ((j : Int) + 1))] xn (oc (show Value.bool (!(fairF ((qs[j]?.getD noQ).n) ((qs[j]?.getD noQ).d) ((qs[j]?.getD noQ).lay) ((chF m qs 1 (qs[j]?.getD noQ).r.toNat).1) ((chF m qs 1 (qs[j]?.getD noQ).r.toNat).2))) = .bool false by rw [ht4] <;> rfl) (oc (show Value.int .i64 (IntKind.i64.wrap ((j : Int) + 1)) = .int .i64 ((j : Int) + 1) from wrp (by omega)) on)) (by kernel_rfl) fun w20 hA => ?_
            refine revals hA (rc 44 (show .int .i64 ((j : Int) + 1) = .int .i64 ((j + 1 : Nat) : Int) by rw [show ((j + 1 : Nat) : Int) = (j : Int) + 1 by omega]) rn) (by kernel_rfl) fun hA => ?_
            exact again hJ2 (n - (j + 1)) (j + 1) [true, true, true, true, true, false] hA (by omega) (by kernel_rfl) (⟨by omega, rfl, fun l hl => by rcases Nat.lt_succ_iff_lt_or_eq.1 hl with h | rfl; exact hall l h; exact ht4⟩)
          ·
            refine runS hA 4 [.b true] xn (oc (show Value.bool (!(fairF ((qs[j]?.getD noQ).n) ((qs[j]?.getD noQ).d) ((qs[j]?.getD noQ).lay) ((chF m qs 1 (qs[j]?.getD noQ).r.toNat).1) ((chF m qs 1 (qs[j]?.getD noQ).r.toNat).2))) = .bool true by rw [ht4] <;> rfl) on) (by kernel_rfl) fun w20 hA => ?_
            refine leave hA (by kernel_rfl) fun hA => ?_
            refine runS hA 8 [.v (.int .i64 2)] xn (oc (show (.int .i64 2 : Value) = .int .i64 2 from rfl) on) (by kernel_rfl) fun w21 hA => ?_
            have hok : okK m qs 1 = false := by
              unfold okK
              rw [Bool.and_eq_false_iff, List.all_eq_false]
              exact .inr ⟨_, get_mem (d := noQ) (show j < qs.length by omega), by rw [ht4]; decide⟩
            have hno2 : ∀ l, l < 2 → okK m qs l = false := fun l hl => by rcases Nat.lt_succ_iff_lt_or_eq.1 hl with h | rfl; exact hno l h; exact hok
            exact again hJ (M - 2) (2) [true, true, true, true, false, false] hA (by omega) (by kernel_rfl) (⟨by omega, rfl, hno2⟩)
    ·
      refine runS hA 23 [.b true] xn (oc (dec_t (show ((2 : Nat) : Int) < m by omega)) on) (by kernel_rfl) fun w7 hA => ?_
      refine draw hA [true, true, true, true, true] [0, 1, 2, 3, 4, 5, 6] (by kernel_rfl) (by kernel_rfl) fun hA => ?_
      refine runS hA 6 [.t 0, .t 1, .t 2, .t 3, .t 4, .t 5] xn on (by kernel_rfl) fun w8 hA => ?_
      have hLk := (hA.at_.ok ⟨w3.heap.size, .cells #[.int .i64 ((LF m qs 0).1), .int .i64 ((LF m qs 0).2), .int .i64 ((LF m qs 1).1), .int .i64 ((LF m qs 1).2), .int .i64 ((LF m qs 2).1), .int .i64 ((LF m qs 2).2), .int .i64 ((LF m qs 3).1), .int .i64 ((LF m qs 3).2), .int .i64 ((LF m qs 4).1), .int .i64 ((LF m qs 4).2)] 111 (0, 0)⟩ (List.mem_of_getElem? (i := 2) (by kernel_rfl)))
      have hGk := (hA.at_.ok ⟨w5.heap.size, .cells #[.int .i64 ((GF m qs 0).1), .int .i64 ((GF m qs 0).2), .int .i64 ((GF m qs 1).1), .int .i64 ((GF m qs 1).2), .int .i64 ((GF m qs 2).1), .int .i64 ((GF m qs 2).2), .int .i64 ((GF m qs 3).1), .int .i64 ((GF m qs 3).2), .int .i64 ((GF m qs 4).1), .int .i64 ((GF m qs 4).2)] 111 (0, 0)⟩ (List.mem_of_getElem? (i := 3) (by kernel_rfl)))
      refine appNDS (t := 114) (e := 23) (ty := 114) (z := .agg #[.int .i64 0, .int .i64 0]) (size := 2) (bytes := 16) (n := 2) (cap := 2) (m := 3) (cp := 3) (A := some ⟨w5.heap.size, 0, none⟩) (A' := some ⟨w3.heap.size, 4, none⟩) [.int .i64 ((GF m qs 0).1), .int .i64 ((GF m qs 0).2), .int .i64 ((GF m qs 1).1), .int .i64 ((GF m qs 1).2)] [.int .i64 ((LF m qs 2).1), .int .i64 ((LF m qs 2).2), .int .i64 ((LF m qs 3).1), .int .i64 ((LF m qs 3).2), .int .i64 ((LF m qs 4).1), .int .i64 ((LF m qs 4).2)] hA (by kernel_rfl) rfl (block_reads (vs := [.int .i64 ((GF m qs 0).1), .int .i64 ((GF m qs 0).2), .int .i64 ((GF m qs 1).1), .int .i64 ((GF m qs 1).2)]) hGk (fun j u hu => by match j, hu with | 0, hu => exact hu | 1, hu => exact hu | 2, hu => exact hu | 3, hu => exact hu)) (fun h9 => by cases h9) (Nat.le_refl _) rfl (block_reads (vs := [.int .i64 ((LF m qs 2).1), .int .i64 ((LF m qs 2).2), .int .i64 ((LF m qs 3).1), .int .i64 ((LF m qs 3).2), .int .i64 ((LF m qs 4).1), .int .i64 ((LF m qs 4).2)]) hLk (fun j u hu => by match j, hu with | 0, hu => exact hu | 1, hu => exact hu | 2, hu => exact hu | 3, hu => exact hu | 4, hu => exact hu | 5, hu => exact hu)) rfl (by omega) (by omega) (by omega) (by omega) fun g1 c1 w9 ob1 hr1 hA => ?_
      refine runS hA 1 [.b false] xn on (by kernel_rfl) fun w10 hA => ?_
      have hrr := row_reads (hA.atK [⟨w.heap.size, .cells #[.int .i64 m, .slice A n c, .map (some mb)] 100 (0, 0)⟩, ⟨w.heap.size + 1, .cells #[.int .i64 0, .int .i64 0, .int .i64 0, .int .i64 0, .int .i64 0, .int .i64 0, .int .i64 0, .int .i64 0, .int .i64 0, .int .i64 0] 111 (0, 0)⟩, ⟨w3.heap.size, .cells #[.int .i64 ((LF m qs 0).1), .int .i64 ((LF m qs 0).2), .int .i64 ((LF m qs 1).1), .int .i64 ((LF m qs 1).2), .int .i64 ((LF m qs 2).1), .int .i64 ((LF m qs 2).2), .int .i64 ((LF m qs 3).1), .int .i64 ((LF m qs 3).2), .int .i64 ((LF m qs 4).1), .int .i64 ((LF m qs 4).2)] 111 (0, 0)⟩, ⟨w5.heap.size, .cells #[.int .i64 ((GF m qs 0).1), .int .i64 ((GF m qs 0).2), .int .i64 ((GF m qs 1).1), .int .i64 ((GF m qs 1).2), .int .i64 ((GF m qs 2).1), .int .i64 ((GF m qs 2).2), .int .i64 ((GF m qs 3).1), .int .i64 ((GF m qs 3).2), .int .i64 ((GF m qs 4).1), .int .i64 ((GF m qs 4).2)] 111 (0, 0)⟩, ⟨wr.heap.size, .cells #[.int .i64 0, .int .i64 0, .int .i64 0, .int .i64 0, .int .i64 0, .int .i64 0, .int .i64 0, .int .i64 0, .int .i64 0, .int .i64 0] 111 (0, 0)⟩] (by kernel_rfl)) hr1
      refine cpyS (kn' := [⟨w.heap.size, .cells #[.int .i64 m, .slice A n c, .map (some mb)] 100 (0, 0)⟩, ⟨w.heap.size + 1, .cells #[.int .i64 0, .int .i64 0, .int .i64 0, .int .i64 0, .int .i64 0, .int .i64 0, .int .i64 0, .int .i64 0, .int .i64 0, .int .i64 0] 111 (0, 0)⟩, ⟨w3.heap.size, .cells #[.int .i64 ((LF m qs 0).1), .int .i64 ((LF m qs 0).2), .int .i64 ((LF m qs 1).1), .int .i64 ((LF m qs 1).2), .int .i64 ((LF m qs 2).1), .int .i64 ((LF m qs 2).2), .int .i64 ((LF m qs 3).1), .int .i64 ((LF m qs 3).2), .int .i64 ((LF m qs 4).1), .int .i64 ((LF m qs 4).2)] 111 (0, 0)⟩, ⟨w5.heap.size, .cells #[.int .i64 ((GF m qs 0).1), .int .i64 ((GF m qs 0).2), .int .i64 ((GF m qs 1).1), .int .i64 ((GF m qs 1).2), .int .i64 ((GF m qs 2).1), .int .i64 ((GF m qs 2).2), .int .i64 ((GF m qs 3).1), .int .i64 ((GF m qs 3).2), .int .i64 ((GF m qs 4).1), .int .i64 ((GF m qs 4).2)] 111 (0, 0)⟩, ⟨wr.heap.size, .cells #[.int .i64 ((GF m qs 0).1), .int .i64 ((GF m qs 0).2), .int .i64 ((GF m qs 1).1), .int .i64 ((GF m qs 1).2), .int .i64 ((LF m qs 2).1), .int .i64 ((LF m qs 2).2), .int .i64 ((LF m qs 3).1), .int .i64 ((LF m qs 3).2), .int .i64 ((LF m qs 4).1), .int .i64 ((LF m qs 4).2)] 111 (0, 0)⟩]) (t := 114) (t' := 114) (ty := 3) (e := 23) (z := .agg #[.int .i64 0, .int .i64 0]) (size := 2) (bytes := 16) (g := wr.heap.size) (o := 0) (dLen := 5) (dCap := 5) (sLen := 5) (sCap := c1) (j := 4) (A := some ⟨g1, 0, none⟩) (cur := #[.int .i64 0, .int .i64 0, .int .i64 0, .int .i64 0, .int .i64 0, .int .i64 0, .int .i64 0, .int .i64 0, .int .i64 0, .int .i64 0]) (T := 111) [.int .i64 ((GF m qs 0).1), .int .i64 ((GF m qs 0).2), .int .i64 ((GF m qs 1).1), .int .i64 ((GF m qs 1).2), .int .i64 ((LF m qs 2).1), .int .i64 ((LF m qs 2).2), .int .i64 ((LF m qs 3).1), .int .i64 ((LF m qs 3).2), .int .i64 ((LF m qs 4).1), .int .i64 ((LF m qs 4).2)] hA (by kernel_rfl) (by kernel_rfl) rfl hrr (by simp) rfl fun w11 hzc hA => ?_
      replace hA := hA.bare
      refine runS hA 8 ([.k 0, .k 0, .k 0] ++ List.replicate 10 (.k 4)) xn on (by kernel_rfl) fun w12 hA => ?_
      refine callB hA [] on (rest_any w12 m A n c (.map (some mb)) (mixF m qs 2) 2 V.few (fun r hr => mix_chc V hr)) (by kernel_rfl) fun w13 hb13 hA => ?_
      have hrb := rst_bd V 2
      refine runS hA 14 [.k 4, .k 4, .k 4, .t 0] xn on (by kernel_rfl) fun w14 hA => ?_
      by_cases ht5 : ((rstF m qs 2).1 : Int) < (0 : Int)
      case pos =>
        refine runS hA 9 [.b true, .v (.int .i64 3)] xn (oc (dec_t ht5) (oc (show (.int .i64 3 : Value) = .int .i64 3 from rfl) on)) (by kernel_rfl) fun w15 hA => ?_
        have hok : okK m qs 2 = false := by unfold okK; rw [decide_eq_false (by omega)]; rfl
        have hno2 : ∀ l, l < 3 → okK m qs l = false := fun l hl => by rcases Nat.lt_succ_iff_lt_or_eq.1 hl with h | rfl; exact hno l h; exact hok
        exact again hJ (M - 3) (3) [true, true, true, true, false] hA (by omega) (by kernel_rfl) (⟨by omega, rfl, hno2⟩)
      case neg =>
        refine runS hA 14 [.b false, .k 0] xn (oc (dec_f ht5) on) (by kernel_rfl) fun w15 hA => ?_
        have hAc := hA.atK [⟨w.heap.size, .cells #[.int .i64 m, .slice A n c, .map (some mb)] 100 (0, 0)⟩, ⟨w.heap.size + 1, .cells #[.int .i64 0, .int .i64 0, .int .i64 0, .int .i64 0, .int .i64 0, .int .i64 0, .int .i64 0, .int .i64 0, .int .i64 0, .int .i64 0] 111 (0, 0)⟩, ⟨w3.heap.size, .cells #[.int .i64 ((LF m qs 0).1), .int .i64 ((LF m qs 0).2), .int .i64 ((LF m qs 1).1), .int .i64 ((LF m qs 1).2), .int .i64 ((LF m qs 2).1), .int .i64 ((LF m qs 2).2), .int .i64 ((LF m qs 3).1), .int .i64 ((LF m qs 3).2), .int .i64 ((LF m qs 4).1), .int .i64 ((LF m qs 4).2)] 111 (0, 0)⟩, ⟨w5.heap.size, .cells #[.int .i64 ((GF m qs 0).1), .int .i64 ((GF m qs 0).2), .int .i64 ((GF m qs 1).1), .int .i64 ((GF m qs 1).2), .int .i64 ((GF m qs 2).1), .int .i64 ((GF m qs 2).2), .int .i64 ((GF m qs 3).1), .int .i64 ((GF m qs 3).2), .int .i64 ((GF m qs 4).1), .int .i64 ((GF m qs 4).2)] 111 (0, 0)⟩, ⟨wr.heap.size, .cells (rtC (chF m qs 2)) 111 (0, 0)⟩] (by kernel_rfl)
        refine reknow ⟨[⟨w.heap.size, .cells #[.int .i64 m, .slice A n c, .map (some mb)] 100 (0, 0)⟩, ⟨w.heap.size + 1, .cells #[.int .i64 0, .int .i64 0, .int .i64 0, .int .i64 0, .int .i64 0, .int .i64 0, .int .i64 0, .int .i64 0, .int .i64 0, .int .i64 0] 111 (0, 0)⟩, ⟨w3.heap.size, .cells #[.int .i64 ((LF m qs 0).1), .int .i64 ((LF m qs 0).2), .int .i64 ((LF m qs 1).1), .int .i64 ((LF m qs 1).2), .int .i64 ((LF m qs 2).1), .int .i64 ((LF m qs 2).2), .int .i64 ((LF m qs 3).1), .int .i64 ((LF m qs 3).2), .int .i64 ((LF m qs 4).1), .int .i64 ((LF m qs 4).2)] 111 (0, 0)⟩, ⟨w5.heap.size, .cells #[.int .i64 ((GF m qs 0).1), .int .i64 ((GF m qs 0).2), .int .i64 ((GF m qs 1).1), .int .i64 ((GF m qs 1).2), .int .i64 ((GF m qs 2).1), .int .i64 ((GF m qs 2).2), .int .i64 ((GF m qs 3).1), .int .i64 ((GF m qs 3).2), .int .i64 ((GF m qs 4).1), .int .i64 ((GF m qs 4).2)] 111 (0, 0)⟩, ⟨wr.heap.size, .cells (rtC (chF m qs 2)) 111 (0, 0)⟩], w15.heap.size, [], [], [], [], []⟩ hAc.resize (Nat.zero_le _) fun hA => ?_
        refine loop (γ := Nat) (fun j => [(1, .pointer (some ⟨w.heap.size, 0, none⟩)), (2, .pointer (some ⟨w.heap.size + 1, 0, none⟩)), (3, .pointer (some ⟨w3.heap.size, 0, none⟩)), (4, .pointer (some ⟨w5.heap.size, 0, none⟩)), (6, .pointer (some ⟨wr.heap.size, 0, none⟩)), (17, .int .i64 m), (18, .int .i64 2), (42, .slice A n c), (43, .int .i64 n), (44, .int .i64 (j : Int))]) (fun j => [⟨w.heap.size, .cells #[.int .i64 m, .slice A n c, .map (some mb)] 100 (0, 0)⟩, ⟨w.heap.size + 1, .cells #[.int .i64 0, .int .i64 0, .int .i64 0, .int .i64 0, .int .i64 0, .int .i64 0, .int .i64 0, .int .i64 0, .int .i64 0, .int .i64 0] 111 (0, 0)⟩, ⟨w3.heap.size, .cells #[.int .i64 ((LF m qs 0).1), .int .i64 ((LF m qs 0).2), .int .i64 ((LF m qs 1).1), .int .i64 ((LF m qs 1).2), .int .i64 ((LF m qs 2).1), .int .i64 ((LF m qs 2).2), .int .i64 ((LF m qs 3).1), .int .i64 ((LF m qs 3).2), .int .i64 ((LF m qs 4).1), .int .i64 ((LF m qs 4).2)] 111 (0, 0)⟩, ⟨w5.heap.size, .cells #[.int .i64 ((GF m qs 0).1), .int .i64 ((GF m qs 0).2), .int .i64 ((GF m qs 1).1), .int .i64 ((GF m qs 1).2), .int .i64 ((GF m qs 2).1), .int .i64 ((GF m qs 2).2), .int .i64 ((GF m qs 3).1), .int .i64 ((GF m qs 3).2), .int .i64 ((GF m qs 4).1), .int .i64 ((GF m qs 4).2)] 111 (0, 0)⟩, ⟨wr.heap.size, .cells (rtC (chF m qs 2)) 111 (0, 0)⟩]) (fun _ => []) (fun g j wt => j ≤ n ∧ g = n - j ∧ ∀ l, l < j → fairF (qs[l]?.getD noQ).n (qs[l]?.getD noQ).d (qs[l]?.getD noQ).lay (chF m qs 2 (qs[l]?.getD noQ).r.toNat).1 (chF m qs 2 (qs[l]?.getD noQ).r.toNat).2 = true) n 0 [true, true, true, true, true] hA (by kernel_rfl) (⟨by omega, rfl, fun l hl => absurd hl (by omega)⟩) ?_
        rintro _ j wt ⟨hj, rfl, hall⟩ J2 hJ2 hA
        by_cases hlj : j < n
        case neg =>
          have hok : okK m qs 2 = true := by
            unfold okK
            rw [decide_eq_true (by omega), Bool.true_and, List.all_eq_true]
            intro q hq
            have hq9 := List.mem_iff_getElem.1 hq
            obtain ⟨l, hl9, rfl⟩ := hq9
            have := hall l (by omega)
            rwa [List.getElem?_eq_getElem hl9] at this
          have hfs := fair_some (by omega) hok hno
          refine runS hA 9 [.b false] xn (oc (dec_f (show ¬ (((j : Int) : Int) < (n : Int)) by omega)) on) (by kernel_rfl) fun w16 hA => ?_
          refine leave hA (by kernel_rfl) fun hA => ?_
          refine runS hA 11 ([.y 4 (.int .i64 ((chF m qs 2 0).1)), .y 4 (.int .i64 ((chF m qs 2 0).2)), .y 4 (.int .i64 ((chF m qs 2 1).1)), .y 4 (.int .i64 ((chF m qs 2 1).2)), .y 4 (.int .i64 ((chF m qs 2 2).1)), .y 4 (.int .i64 ((chF m qs 2 2).2)), .y 4 (.int .i64 ((chF m qs 2 3).1)), .y 4 (.int .i64 ((chF m qs 2 3).2)), .y 4 (.int .i64 ((chF m qs 2 4).1)), .y 4 (.int .i64 ((chF m qs 2 4).2))] ++ List.replicate 10 (.k 1)) xn (oc (show (rtC (chF m qs 2))[0]? = some (.int .i64 ((chF m qs 2 0).1)) from rfl) (oc (show (rtC (chF m qs 2))[1]? = some (.int .i64 ((chF m qs 2 0).2)) from rfl) (oc (show (rtC (chF m qs 2))[2]? = some (.int .i64 ((chF m qs 2 1).1)) from rfl) (oc (show (rtC (chF m qs 2))[3]? = some (.int .i64 ((chF m qs 2 1).2)) from rfl) (oc (show (rtC (chF m qs 2))[4]? = some (.int .i64 ((chF m qs 2 2).1)) from rfl) (oc (show (rtC (chF m qs 2))[5]? = some (.int .i64 ((chF m qs 2 2).2)) from rfl) (oc (show (rtC (chF m qs 2))[6]? = some (.int .i64 ((chF m qs 2 3).1)) from rfl) (oc (show (rtC (chF m qs 2))[7]? = some (.int .i64 ((chF m qs 2 3).2)) from rfl) (oc (show (rtC (chF m qs 2))[8]? = some (.int .i64 ((chF m qs 2 4).1)) from rfl) (oc (show (rtC (chF m qs 2))[9]? = some (.int .i64 ((chF m qs 2 4).2)) from rfl) on)))))))))) (by kernel_rfl) fun w17 hA => ?_
          refine leave hA (by kernel_rfl) fun hA => ?_
          refine runS hA 2 [] xn on (by kernel_rfl) fun w18 hA => ?_
          have h9 : fairV m qs = chF m qs 2 := by funext r; unfold fairV; rw [hfs]
          exact ret (v := .agg #[.int .i64 ((chF m qs 2 0).1), .int .i64 ((chF m qs 2 0).2), .int .i64 ((chF m qs 2 1).1), .int .i64 ((chF m qs 2 1).2), .int .i64 ((chF m qs 2 2).1), .int .i64 ((chF m qs 2 2).2), .int .i64 ((chF m qs 2 3).1), .int .i64 ((chF m qs 2 3).2), .int .i64 ((chF m qs 2 4).1), .int .i64 ((chF m qs 2 4).2)]) hA (List.replicate 10 (.k 1)) (by kernel_rfl) ⟨by rw [h9]; rfl, hA.below⟩
        case pos =>
          have hq9 := hx.at (hlj)
          obtain ⟨b, off, rfl, hlb, hcb⟩ := hq9
          have k0 := hcb 0 _ rfl
          have k1 := hcb 1 _ rfl
          have k2 := hcb 2 _ rfl
          have k3 := hcb 3 _ rfl
          have hqv := V.all _ (get_mem (d := noQ) (show j < qs.length by omega))
          have hcb9 := ch_bd V 2 (r := (qs[j]?.getD noQ).r.toNat) (by omega)
          have hgt9 := rtC_get (f := chF m qs 2) (show (qs[j]?.getD noQ).r.toNat < 5 by omega)
          refine runS hA 20 ([.b true, .i, .x (.int .i64 ((qs[j]?.getD noQ).r)), .x (.int .i64 ((qs[j]?.getD noQ).n)), .x (.int .i64 ((qs[j]?.getD noQ).d)), .x (.bool ((qs[j]?.getD noQ).lay))] ++ List.replicate 4 (.k 5)) (xc (a := ⟨b, off + j * 4, none⟩) ⟨Nat.lt_of_lt_of_le hlb hB, k0⟩ (xc (a := ⟨b, off + j * 4 + 1, none⟩) ⟨Nat.lt_of_lt_of_le hlb hB, k1⟩ (xc (a := ⟨b, off + j * 4 + 2, none⟩) ⟨Nat.lt_of_lt_of_le hlb hB, k2⟩ (xc (a := ⟨b, off + j * 4 + 3, none⟩) ⟨Nat.lt_of_lt_of_le hlb hB, k3⟩ xn)))) (oc (dec_t (show (((j : Int) : Int) < (n : Int)) by omega)) (oc (show (0 : Int) ≤ ((j : Int) : Int) ∧ ((j : Int) : Int) < (n : Int) by omega) on)) (by kernel_rfl) fun w16 hA => ?_
          refine draw hA [true, true, true, true, true, true] [0, 1, 2, 3, 4, 5, 6] (by kernel_rfl) (by kernel_rfl) fun hA => ?_
          refine runS hA 5 ([.t 0] ++ List.replicate 4 (.k 5) ++ [.t 1, .t 2, .k 5, .t 3, .i, .t 4, .y 4 (.int .i64 ((chF m qs 2 (qs[j]?.getD noQ).r.toNat).1)), .y 4 (.int .i64 ((chF m qs 2 (qs[j]?.getD noQ).r.toNat).2))]) xn (oc (show (0 : Int) ≤ ((qs[j]?.getD noQ).r : Int) ∧ ((qs[j]?.getD noQ).r : Int) < (5 : Int) by omega) (oc (show (rtC (chF m qs 2))[0 + ((qs[j]?.getD noQ).r.toNat) * 2]? = some (.int .i64 ((chF m qs 2 (qs[j]?.getD noQ).r.toNat).1)) from hgt9.1) (oc (show (rtC (chF m qs 2))[0 + ((qs[j]?.getD noQ).r.toNat) * 2 + 1]? = some (.int .i64 ((chF m qs 2 (qs[j]?.getD noQ).r.toNat).2)) from hgt9.2) on))) (by kernel_rfl) fun w17 hA => ?_
          refine callB hA [] on (isFair_any w17 ((qs[j]?.getD noQ).r) ((qs[j]?.getD noQ).n) ((qs[j]?.getD noQ).d) ((qs[j]?.getD noQ).lay) ((chF m qs 2 (qs[j]?.getD noQ).r.toNat).1) ((chF m qs 2 (qs[j]?.getD noQ).r.toNat).2) (hqv.2.1) (hqv.2.2) ((by omega)) ((by omega))) (by kernel_rfl) fun w18 hb18 hA => ?_
          refine runS hA 3 [.t 6, .b true, .t 0] xn on (by kernel_rfl) fun w19 hA => ?_
          have hq9 := Bool.eq_false_or_eq_true ((fairF ((qs[j]?.getD noQ).n) ((qs[j]?.getD noQ).d) ((qs[j]?.getD noQ).lay) ((chF m qs 2 (qs[j]?.getD noQ).r.toNat).1) ((chF m qs 2 (qs[j]?.getD noQ).r.toNat).2)))
          rcases hq9 with ht6 | ht6
          ·
            refine runS hA 8 [.b false, .v (.int .i64 ((j : Int) + 1))] xn (oc (show Value.bool (!(fairF ((qs[j]?.getD noQ).n) ((qs[j]?.getD noQ).d) ((qs[j]?.getD noQ).lay) ((chF m qs 2 (qs[j]?.getD noQ).r.toNat).1) ((chF m qs 2 (qs[j]?.getD noQ).r.toNat).2))) = .bool false by rw [ht6] <;> rfl) (oc (show Value.int .i64 (IntKind.i64.wrap ((j : Int) + 1)) = .int .i64 ((j : Int) + 1) from wrp (by omega)) on)) (by kernel_rfl) fun w20 hA => ?_
            refine revals hA (rc 44 (show .int .i64 ((j : Int) + 1) = .int .i64 ((j + 1 : Nat) : Int) by rw [show ((j + 1 : Nat) : Int) = (j : Int) + 1 by omega]) rn) (by kernel_rfl) fun hA => ?_
            exact again hJ2 (n - (j + 1)) (j + 1) [true, true, true, true, true, false] hA (by omega) (by kernel_rfl) (⟨by omega, rfl, fun l hl => by rcases Nat.lt_succ_iff_lt_or_eq.1 hl with h | rfl; exact hall l h; exact ht6⟩)
          ·
            refine runS hA 4 [.b true] xn (oc (show Value.bool (!(fairF ((qs[j]?.getD noQ).n) ((qs[j]?.getD noQ).d) ((qs[j]?.getD noQ).lay) ((chF m qs 2 (qs[j]?.getD noQ).r.toNat).1) ((chF m qs 2 (qs[j]?.getD noQ).r.toNat).2))) = .bool true by rw [ht6] <;> rfl) on) (by kernel_rfl) fun w20 hA => ?_
            refine leave hA (by kernel_rfl) fun hA => ?_
            refine runS hA 8 [.v (.int .i64 3)] xn (oc (show (.int .i64 3 : Value) = .int .i64 3 from rfl) on) (by kernel_rfl) fun w21 hA => ?_
            have hok : okK m qs 2 = false := by
              unfold okK
              rw [Bool.and_eq_false_iff, List.all_eq_false]
              exact .inr ⟨_, get_mem (d := noQ) (show j < qs.length by omega), by rw [ht6]; decide⟩
            have hno2 : ∀ l, l < 3 → okK m qs l = false := fun l hl => by rcases Nat.lt_succ_iff_lt_or_eq.1 hl with h | rfl; exact hno l h; exact hok
            exact again hJ (M - 3) (3) [true, true, true, true, false, false] hA (by omega) (by kernel_rfl) (⟨by omega, rfl, hno2⟩)
    ·
      refine runS hA 23 [.b true] xn (oc (dec_t (show ((3 : Nat) : Int) < m by omega)) on) (by kernel_rfl) fun w7 hA => ?_
      refine draw hA [true, true, true, true, true] [0, 1, 2, 3, 4, 5, 6] (by kernel_rfl) (by kernel_rfl) fun hA => ?_
      refine runS hA 6 [.t 0, .t 1, .t 2, .t 3, .t 4, .t 5] xn on (by kernel_rfl) fun w8 hA => ?_
      have hLk := (hA.at_.ok ⟨w3.heap.size, .cells #[.int .i64 ((LF m qs 0).1), .int .i64 ((LF m qs 0).2), .int .i64 ((LF m qs 1).1), .int .i64 ((LF m qs 1).2), .int .i64 ((LF m qs 2).1), .int .i64 ((LF m qs 2).2), .int .i64 ((LF m qs 3).1), .int .i64 ((LF m qs 3).2), .int .i64 ((LF m qs 4).1), .int .i64 ((LF m qs 4).2)] 111 (0, 0)⟩ (List.mem_of_getElem? (i := 2) (by kernel_rfl)))
      have hGk := (hA.at_.ok ⟨w5.heap.size, .cells #[.int .i64 ((GF m qs 0).1), .int .i64 ((GF m qs 0).2), .int .i64 ((GF m qs 1).1), .int .i64 ((GF m qs 1).2), .int .i64 ((GF m qs 2).1), .int .i64 ((GF m qs 2).2), .int .i64 ((GF m qs 3).1), .int .i64 ((GF m qs 3).2), .int .i64 ((GF m qs 4).1), .int .i64 ((GF m qs 4).2)] 111 (0, 0)⟩ (List.mem_of_getElem? (i := 3) (by kernel_rfl)))
      refine appNDS (t := 114) (e := 23) (ty := 114) (z := .agg #[.int .i64 0, .int .i64 0]) (size := 2) (bytes := 16) (n := 3) (cap := 3) (m := 2) (cp := 2) (A := some ⟨w5.heap.size, 0, none⟩) (A' := some ⟨w3.heap.size, 6, none⟩) [.int .i64 ((GF m qs 0).1), .int .i64 ((GF m qs 0).2), .int .i64 ((GF m qs 1).1), .int .i64 ((GF m qs 1).2), .int .i64 ((GF m qs 2).1), .int .i64 ((GF m qs 2).2)] [.int .i64 ((LF m qs 3).1), .int .i64 ((LF m qs 3).2), .int .i64 ((LF m qs 4).1), .int .i64 ((LF m qs 4).2)] hA (by kernel_rfl) rfl (block_reads (vs := [.int .i64 ((GF m qs 0).1), .int .i64 ((GF m qs 0).2), .int .i64 ((GF m qs 1).1), .int .i64 ((GF m qs 1).2), .int .i64 ((GF m qs 2).1), .int .i64 ((GF m qs 2).2)]) hGk (fun j u hu => by match j, hu with | 0, hu => exact hu | 1, hu => exact hu | 2, hu => exact hu | 3, hu => exact hu | 4, hu => exact hu | 5, hu => exact hu)) (fun h9 => by cases h9) (Nat.le_refl _) rfl (block_reads (vs := [.int .i64 ((LF m qs 3).1), .int .i64 ((LF m qs 3).2), .int .i64 ((LF m qs 4).1), .int .i64 ((LF m qs 4).2)]) hLk (fun j u hu => by match j, hu with | 0, hu => exact hu | 1, hu => exact hu | 2, hu => exact hu | 3, hu => exact hu)) rfl (by omega) (by omega) (by omega) (by omega) fun g1 c1 w9 ob1 hr1 hA => ?_
      refine runS hA 1 [.b false] xn on (by kernel_rfl) fun w10 hA => ?_
      have hrr := row_reads (hA.atK [⟨w.heap.size, .cells #[.int .i64 m, .slice A n c, .map (some mb)] 100 (0, 0)⟩, ⟨w.heap.size + 1, .cells #[.int .i64 0, .int .i64 0, .int .i64 0, .int .i64 0, .int .i64 0, .int .i64 0, .int .i64 0, .int .i64 0, .int .i64 0, .int .i64 0] 111 (0, 0)⟩, ⟨w3.heap.size, .cells #[.int .i64 ((LF m qs 0).1), .int .i64 ((LF m qs 0).2), .int .i64 ((LF m qs 1).1), .int .i64 ((LF m qs 1).2), .int .i64 ((LF m qs 2).1), .int .i64 ((LF m qs 2).2), .int .i64 ((LF m qs 3).1), .int .i64 ((LF m qs 3).2), .int .i64 ((LF m qs 4).1), .int .i64 ((LF m qs 4).2)] 111 (0, 0)⟩, ⟨w5.heap.size, .cells #[.int .i64 ((GF m qs 0).1), .int .i64 ((GF m qs 0).2), .int .i64 ((GF m qs 1).1), .int .i64 ((GF m qs 1).2), .int .i64 ((GF m qs 2).1), .int .i64 ((GF m qs 2).2), .int .i64 ((GF m qs 3).1), .int .i64 ((GF m qs 3).2), .int .i64 ((GF m qs 4).1), .int .i64 ((GF m qs 4).2)] 111 (0, 0)⟩, ⟨wr.heap.size, .cells #[.int .i64 0, .int .i64 0, .int .i64 0, .int .i64 0, .int .i64 0, .int .i64 0, .int .i64 0, .int .i64 0, .int .i64 0, .int .i64 0] 111 (0, 0)⟩] (by kernel_rfl)) hr1
      refine cpyS (kn' := [⟨w.heap.size, .cells #[.int .i64 m, .slice A n c, .map (some mb)] 100 (0, 0)⟩, ⟨w.heap.size + 1, .cells #[.int .i64 0, .int .i64 0, .int .i64 0, .int .i64 0, .int .i64 0, .int .i64 0, .int .i64 0, .int .i64 0, .int .i64 0, .int .i64 0] 111 (0, 0)⟩, ⟨w3.heap.size, .cells #[.int .i64 ((LF m qs 0).1), .int .i64 ((LF m qs 0).2), .int .i64 ((LF m qs 1).1), .int .i64 ((LF m qs 1).2), .int .i64 ((LF m qs 2).1), .int .i64 ((LF m qs 2).2), .int .i64 ((LF m qs 3).1), .int .i64 ((LF m qs 3).2), .int .i64 ((LF m qs 4).1), .int .i64 ((LF m qs 4).2)] 111 (0, 0)⟩, ⟨w5.heap.size, .cells #[.int .i64 ((GF m qs 0).1), .int .i64 ((GF m qs 0).2), .int .i64 ((GF m qs 1).1), .int .i64 ((GF m qs 1).2), .int .i64 ((GF m qs 2).1), .int .i64 ((GF m qs 2).2), .int .i64 ((GF m qs 3).1), .int .i64 ((GF m qs 3).2), .int .i64 ((GF m qs 4).1), .int .i64 ((GF m qs 4).2)] 111 (0, 0)⟩, ⟨wr.heap.size, .cells #[.int .i64 ((GF m qs 0).1), .int .i64 ((GF m qs 0).2), .int .i64 ((GF m qs 1).1), .int .i64 ((GF m qs 1).2), .int .i64 ((GF m qs 2).1), .int .i64 ((GF m qs 2).2), .int .i64 ((LF m qs 3).1), .int .i64 ((LF m qs 3).2), .int .i64 ((LF m qs 4).1), .int .i64 ((LF m qs 4).2)] 111 (0, 0)⟩]) (t := 114) (t' := 114) (ty := 3) (e := 23) (z := .agg #[.int .i64 0, .int .i64 0]) (size := 2) (bytes := 16) (g := wr.heap.size) (o := 0) (dLen := 5) (dCap := 5) (sLen := 5) (sCap := c1) (j := 4) (A := some ⟨g1, 0, none⟩) (cur := #[.int .i64 0, .int .i64 0, .int .i64 0, .int .i64 0, .int .i64 0, .int .i64 0, .int .i64 0, .int .i64 0, .int .i64 0, .int .i64 0]) (T := 111) [.int .i64 ((GF m qs 0).1), .int .i64 ((GF m qs 0).2), .int .i64 ((GF m qs 1).1), .int .i64 ((GF m qs 1).2), .int .i64 ((GF m qs 2).1), .int .i64 ((GF m qs 2).2), .int .i64 ((LF m qs 3).1), .int .i64 ((LF m qs 3).2), .int .i64 ((LF m qs 4).1), .int .i64 ((LF m qs 4).2)] hA (by kernel_rfl) (by kernel_rfl) rfl hrr (by simp) rfl fun w11 hzc hA => ?_
      replace hA := hA.bare
      refine runS hA 8 ([.k 0, .k 0, .k 0] ++ List.replicate 10 (.k 4)) xn on (by kernel_rfl) fun w12 hA => ?_
      refine callB hA [] on (rest_any w12 m A n c (.map (some mb)) (mixF m qs 3) 3 V.few (fun r hr => mix_chc V hr)) (by kernel_rfl) fun w13 hb13 hA => ?_
      have hrb := rst_bd V 3
      refine runS hA 14 [.k 4, .k 4, .k 4, .t 0] xn on (by kernel_rfl) fun w14 hA => ?_
      by_cases ht7 : ((rstF m qs 3).1 : Int) < (0 : Int)
      case pos =>
        refine runS hA 9 [.b true, .v (.int .i64 4)] xn (oc (dec_t ht7) (oc (show (.int .i64 4 : Value) = .int .i64 4 from rfl) on)) (by kernel_rfl) fun w15 hA => ?_
        have hok : okK m qs 3 = false := by unfold okK; rw [decide_eq_false (by omega)]; rfl
        have hno2 : ∀ l, l < 4 → okK m qs l = false := fun l hl => by rcases Nat.lt_succ_iff_lt_or_eq.1 hl with h | rfl; exact hno l h; exact hok
        exact again hJ (M - 4) (4) [true, true, true, true, false] hA (by omega) (by kernel_rfl) (⟨by omega, rfl, hno2⟩)
      case neg =>
        refine runS hA 14 [.b false, .k 0] xn (oc (dec_f ht7) on) (by kernel_rfl) fun w15 hA => ?_
        have hAc := hA.atK [⟨w.heap.size, .cells #[.int .i64 m, .slice A n c, .map (some mb)] 100 (0, 0)⟩, ⟨w.heap.size + 1, .cells #[.int .i64 0, .int .i64 0, .int .i64 0, .int .i64 0, .int .i64 0, .int .i64 0, .int .i64 0, .int .i64 0, .int .i64 0, .int .i64 0] 111 (0, 0)⟩, ⟨w3.heap.size, .cells #[.int .i64 ((LF m qs 0).1), .int .i64 ((LF m qs 0).2), .int .i64 ((LF m qs 1).1), .int .i64 ((LF m qs 1).2), .int .i64 ((LF m qs 2).1), .int .i64 ((LF m qs 2).2), .int .i64 ((LF m qs 3).1), .int .i64 ((LF m qs 3).2), .int .i64 ((LF m qs 4).1), .int .i64 ((LF m qs 4).2)] 111 (0, 0)⟩, ⟨w5.heap.size, .cells #[.int .i64 ((GF m qs 0).1), .int .i64 ((GF m qs 0).2), .int .i64 ((GF m qs 1).1), .int .i64 ((GF m qs 1).2), .int .i64 ((GF m qs 2).1), .int .i64 ((GF m qs 2).2), .int .i64 ((GF m qs 3).1), .int .i64 ((GF m qs 3).2), .int .i64 ((GF m qs 4).1), .int .i64 ((GF m qs 4).2)] 111 (0, 0)⟩, ⟨wr.heap.size, .cells (rtC (chF m qs 3)) 111 (0, 0)⟩] (by kernel_rfl)
        refine reknow ⟨[⟨w.heap.size, .cells #[.int .i64 m, .slice A n c, .map (some mb)] 100 (0, 0)⟩, ⟨w.heap.size + 1, .cells #[.int .i64 0, .int .i64 0, .int .i64 0, .int .i64 0, .int .i64 0, .int .i64 0, .int .i64 0, .int .i64 0, .int .i64 0, .int .i64 0] 111 (0, 0)⟩, ⟨w3.heap.size, .cells #[.int .i64 ((LF m qs 0).1), .int .i64 ((LF m qs 0).2), .int .i64 ((LF m qs 1).1), .int .i64 ((LF m qs 1).2), .int .i64 ((LF m qs 2).1), .int .i64 ((LF m qs 2).2), .int .i64 ((LF m qs 3).1), .int .i64 ((LF m qs 3).2), .int .i64 ((LF m qs 4).1), .int .i64 ((LF m qs 4).2)] 111 (0, 0)⟩, ⟨w5.heap.size, .cells #[.int .i64 ((GF m qs 0).1), .int .i64 ((GF m qs 0).2), .int .i64 ((GF m qs 1).1), .int .i64 ((GF m qs 1).2), .int .i64 ((GF m qs 2).1), .int .i64 ((GF m qs 2).2), .int .i64 ((GF m qs 3).1), .int .i64 ((GF m qs 3).2), .int .i64 ((GF m qs 4).1), .int .i64 ((GF m qs 4).2)] 111 (0, 0)⟩, ⟨wr.heap.size, .cells (rtC (chF m qs 3)) 111 (0, 0)⟩], w15.heap.size, [], [], [], [], []⟩ hAc.resize (Nat.zero_le _) fun hA => ?_
        refine loop (γ := Nat) (fun j => [(1, .pointer (some ⟨w.heap.size, 0, none⟩)), (2, .pointer (some ⟨w.heap.size + 1, 0, none⟩)), (3, .pointer (some ⟨w3.heap.size, 0, none⟩)), (4, .pointer (some ⟨w5.heap.size, 0, none⟩)), (6, .pointer (some ⟨wr.heap.size, 0, none⟩)), (17, .int .i64 m), (18, .int .i64 3), (42, .slice A n c), (43, .int .i64 n), (44, .int .i64 (j : Int))]) (fun j => [⟨w.heap.size, .cells #[.int .i64 m, .slice A n c, .map (some mb)] 100 (0, 0)⟩, ⟨w.heap.size + 1, .cells #[.int .i64 0, .int .i64 0, .int .i64 0, .int .i64 0, .int .i64 0, .int .i64 0, .int .i64 0, .int .i64 0, .int .i64 0, .int .i64 0] 111 (0, 0)⟩, ⟨w3.heap.size, .cells #[.int .i64 ((LF m qs 0).1), .int .i64 ((LF m qs 0).2), .int .i64 ((LF m qs 1).1), .int .i64 ((LF m qs 1).2), .int .i64 ((LF m qs 2).1), .int .i64 ((LF m qs 2).2), .int .i64 ((LF m qs 3).1), .int .i64 ((LF m qs 3).2), .int .i64 ((LF m qs 4).1), .int .i64 ((LF m qs 4).2)] 111 (0, 0)⟩, ⟨w5.heap.size, .cells #[.int .i64 ((GF m qs 0).1), .int .i64 ((GF m qs 0).2), .int .i64 ((GF m qs 1).1), .int .i64 ((GF m qs 1).2), .int .i64 ((GF m qs 2).1), .int .i64 ((GF m qs 2).2), .int .i64 ((GF m qs 3).1), .int .i64 ((GF m qs 3).2), .int .i64 ((GF m qs 4).1), .int .i64 ((GF m qs 4).2)] 111 (0, 0)⟩, ⟨wr.heap.size, .cells (rtC (chF m qs 3)) 111 (0, 0)⟩]) (fun _ => []) (fun g j wt => j ≤ n ∧ g = n - j ∧ ∀ l, l < j → fairF (qs[l]?.getD noQ).n (qs[l]?.getD noQ).d (qs[l]?.getD noQ).lay (chF m qs 3 (qs[l]?.getD noQ).r.toNat).1 (chF m qs 3 (qs[l]?.getD noQ).r.toNat).2 = true) n 0 [true, true, true, true, true] hA (by kernel_rfl) (⟨by omega, rfl, fun l hl => absurd hl (by omega)⟩) ?_
        rintro _ j wt ⟨hj, rfl, hall⟩ J2 hJ2 hA
        by_cases hlj : j < n
        case neg =>
          have hok : okK m qs 3 = true := by
            unfold okK
            rw [decide_eq_true (by omega), Bool.true_and, List.all_eq_true]
            intro q hq
            have hq9 := List.mem_iff_getElem.1 hq
            obtain ⟨l, hl9, rfl⟩ := hq9
            have := hall l (by omega)
            rwa [List.getElem?_eq_getElem hl9] at this
          have hfs := fair_some (by omega) hok hno
          refine runS hA 9 [.b false] xn (oc (dec_f (show ¬ (((j : Int) : Int) < (n : Int)) by omega)) on) (by kernel_rfl) fun w16 hA => ?_
          refine leave hA (by kernel_rfl) fun hA => ?_
          refine runS hA 11 ([.y 4 (.int .i64 ((chF m qs 3 0).1)), .y 4 (.int .i64 ((chF m qs 3 0).2)), .y 4 (.int .i64 ((chF m qs 3 1).1)), .y 4 (.int .i64 ((chF m qs 3 1).2)), .y 4 (.int .i64 ((chF m qs 3 2).1)), .y 4 (.int .i64 ((chF m qs 3 2).2)), .y 4 (.int .i64 ((chF m qs 3 3).1)), .y 4 (.int .i64 ((chF m qs 3 3).2)), .y 4 (.int .i64 ((chF m qs 3 4).1)), .y 4 (.int .i64 ((chF m qs 3 4).2))] ++ List.replicate 10 (.k 1)) xn (oc (show (rtC (chF m qs 3))[0]? = some (.int .i64 ((chF m qs 3 0).1)) from rfl) (oc (show (rtC (chF m qs 3))[1]? = some (.int .i64 ((chF m qs 3 0).2)) from rfl) (oc (show (rtC (chF m qs 3))[2]? = some (.int .i64 ((chF m qs 3 1).1)) from rfl) (oc (show (rtC (chF m qs 3))[3]? = some (.int .i64 ((chF m qs 3 1).2)) from rfl) (oc (show (rtC (chF m qs 3))[4]? = some (.int .i64 ((chF m qs 3 2).1)) from rfl) (oc (show (rtC (chF m qs 3))[5]? = some (.int .i64 ((chF m qs 3 2).2)) from rfl) (oc (show (rtC (chF m qs 3))[6]? = some (.int .i64 ((chF m qs 3 3).1)) from rfl) (oc (show (rtC (chF m qs 3))[7]? = some (.int .i64 ((chF m qs 3 3).2)) from rfl) (oc (show (rtC (chF m qs 3))[8]? = some (.int .i64 ((chF m qs 3 4).1)) from rfl) (oc (show (rtC (chF m qs 3))[9]? = some (.int .i64 ((chF m qs 3 4).2)) from rfl) on)))))))))) (by kernel_rfl) fun w17 hA => ?_
          refine leave hA (by kernel_rfl) fun hA => ?_
          refine runS hA 2 [] xn on (by kernel_rfl) fun w18 hA => ?_
          have h9 : fairV m qs = chF m qs 3 := by funext r; unfold fairV; rw [hfs]
          exact ret (v := .agg #[.int .i64 ((chF m qs 3 0).1), .int .i64 ((chF m qs 3 0).2), .int .i64 ((chF m qs 3 1).1), .int .i64 ((chF m qs 3 1).2), .int .i64 ((chF m qs 3 2).1), .int .i64 ((chF m qs 3 2).2), .int .i64 ((chF m qs 3 3).1), .int .i64 ((chF m qs 3 3).2), .int .i64 ((chF m qs 3 4).1), .int .i64 ((chF m qs 3 4).2)]) hA (List.replicate 10 (.k 1)) (by kernel_rfl) ⟨by rw [h9]; rfl, hA.below⟩
        case pos =>
          have hq9 := hx.at (hlj)
          obtain ⟨b, off, rfl, hlb, hcb⟩ := hq9
          have k0 := hcb 0 _ rfl
          have k1 := hcb 1 _ rfl
          have k2 := hcb 2 _ rfl
          have k3 := hcb 3 _ rfl
          have hqv := V.all _ (get_mem (d := noQ) (show j < qs.length by omega))
          have hcb9 := ch_bd V 3 (r := (qs[j]?.getD noQ).r.toNat) (by omega)
          have hgt9 := rtC_get (f := chF m qs 3) (show (qs[j]?.getD noQ).r.toNat < 5 by omega)
          refine runS hA 20 ([.b true, .i, .x (.int .i64 ((qs[j]?.getD noQ).r)), .x (.int .i64 ((qs[j]?.getD noQ).n)), .x (.int .i64 ((qs[j]?.getD noQ).d)), .x (.bool ((qs[j]?.getD noQ).lay))] ++ List.replicate 4 (.k 5)) (xc (a := ⟨b, off + j * 4, none⟩) ⟨Nat.lt_of_lt_of_le hlb hB, k0⟩ (xc (a := ⟨b, off + j * 4 + 1, none⟩) ⟨Nat.lt_of_lt_of_le hlb hB, k1⟩ (xc (a := ⟨b, off + j * 4 + 2, none⟩) ⟨Nat.lt_of_lt_of_le hlb hB, k2⟩ (xc (a := ⟨b, off + j * 4 + 3, none⟩) ⟨Nat.lt_of_lt_of_le hlb hB, k3⟩ xn)))) (oc (dec_t (show (((j : Int) : Int) < (n : Int)) by omega)) (oc (show (0 : Int) ≤ ((j : Int) : Int) ∧ ((j : Int) : Int) < (n : Int) by omega) on)) (by kernel_rfl) fun w16 hA => ?_
          refine draw hA [true, true, true, true, true, true] [0, 1, 2, 3, 4, 5, 6] (by kernel_rfl) (by kernel_rfl) fun hA => ?_
          refine runS hA 5 ([.t 0] ++ List.replicate 4 (.k 5) ++ [.t 1, .t 2, .k 5, .t 3, .i, .t 4, .y 4 (.int .i64 ((chF m qs 3 (qs[j]?.getD noQ).r.toNat).1)), .y 4 (.int .i64 ((chF m qs 3 (qs[j]?.getD noQ).r.toNat).2))]) xn (oc (show (0 : Int) ≤ ((qs[j]?.getD noQ).r : Int) ∧ ((qs[j]?.getD noQ).r : Int) < (5 : Int) by omega) (oc (show (rtC (chF m qs 3))[0 + ((qs[j]?.getD noQ).r.toNat) * 2]? = some (.int .i64 ((chF m qs 3 (qs[j]?.getD noQ).r.toNat).1)) from hgt9.1) (oc (show (rtC (chF m qs 3))[0 + ((qs[j]?.getD noQ).r.toNat) * 2 + 1]? = some (.int .i64 ((chF m qs 3 (qs[j]?.getD noQ).r.toNat).2)) from hgt9.2) on))) (by kernel_rfl) fun w17 hA => ?_
          refine callB hA [] on (isFair_any w17 ((qs[j]?.getD noQ).r) ((qs[j]?.getD noQ).n) ((qs[j]?.getD noQ).d) ((qs[j]?.getD noQ).lay) ((chF m qs 3 (qs[j]?.getD noQ).r.toNat).1) ((chF m qs 3 (qs[j]?.getD noQ).r.toNat).2) (hqv.2.1) (hqv.2.2) ((by omega)) ((by omega))) (by kernel_rfl) fun w18 hb18 hA => ?_
          refine runS hA 3 [.t 6, .b true, .t 0] xn on (by kernel_rfl) fun w19 hA => ?_
          have hq9 := Bool.eq_false_or_eq_true ((fairF ((qs[j]?.getD noQ).n) ((qs[j]?.getD noQ).d) ((qs[j]?.getD noQ).lay) ((chF m qs 3 (qs[j]?.getD noQ).r.toNat).1) ((chF m qs 3 (qs[j]?.getD noQ).r.toNat).2)))
          rcases hq9 with ht8 | ht8
          ·
            refine runS hA 8 [.b false, .v (.int .i64 ((j : Int) + 1))] xn (oc (show Value.bool (!(fairF ((qs[j]?.getD noQ).n) ((qs[j]?.getD noQ).d) ((qs[j]?.getD noQ).lay) ((chF m qs 3 (qs[j]?.getD noQ).r.toNat).1) ((chF m qs 3 (qs[j]?.getD noQ).r.toNat).2))) = .bool false by rw [ht8] <;> rfl) (oc (show Value.int .i64 (IntKind.i64.wrap ((j : Int) + 1)) = .int .i64 ((j : Int) + 1) from wrp (by omega)) on)) (by kernel_rfl) fun w20 hA => ?_
            refine revals hA (rc 44 (show .int .i64 ((j : Int) + 1) = .int .i64 ((j + 1 : Nat) : Int) by rw [show ((j + 1 : Nat) : Int) = (j : Int) + 1 by omega]) rn) (by kernel_rfl) fun hA => ?_
            exact again hJ2 (n - (j + 1)) (j + 1) [true, true, true, true, true, false] hA (by omega) (by kernel_rfl) (⟨by omega, rfl, fun l hl => by rcases Nat.lt_succ_iff_lt_or_eq.1 hl with h | rfl; exact hall l h; exact ht8⟩)
          ·
            refine runS hA 4 [.b true] xn (oc (show Value.bool (!(fairF ((qs[j]?.getD noQ).n) ((qs[j]?.getD noQ).d) ((qs[j]?.getD noQ).lay) ((chF m qs 3 (qs[j]?.getD noQ).r.toNat).1) ((chF m qs 3 (qs[j]?.getD noQ).r.toNat).2))) = .bool true by rw [ht8] <;> rfl) on) (by kernel_rfl) fun w20 hA => ?_
            refine leave hA (by kernel_rfl) fun hA => ?_
            refine runS hA 8 [.v (.int .i64 4)] xn (oc (show (.int .i64 4 : Value) = .int .i64 4 from rfl) on) (by kernel_rfl) fun w21 hA => ?_
            have hok : okK m qs 3 = false := by
              unfold okK
              rw [Bool.and_eq_false_iff, List.all_eq_false]
              exact .inr ⟨_, get_mem (d := noQ) (show j < qs.length by omega), by rw [ht8]; decide⟩
            have hno2 : ∀ l, l < 4 → okK m qs l = false := fun l hl => by rcases Nat.lt_succ_iff_lt_or_eq.1 hl with h | rfl; exact hno l h; exact hok
            exact again hJ (M - 4) (4) [true, true, true, true, false, false] hA (by omega) (by kernel_rfl) (⟨by omega, rfl, hno2⟩)
    ·
      refine runS hA 23 [.b true] xn (oc (dec_t (show ((4 : Nat) : Int) < m by omega)) on) (by kernel_rfl) fun w7 hA => ?_
      refine draw hA [true, true, true, true, true] [0, 1, 2, 3, 4, 5, 6] (by kernel_rfl) (by kernel_rfl) fun hA => ?_
      refine runS hA 6 [.t 0, .t 1, .t 2, .t 3, .t 4, .t 5] xn on (by kernel_rfl) fun w8 hA => ?_
      have hLk := (hA.at_.ok ⟨w3.heap.size, .cells #[.int .i64 ((LF m qs 0).1), .int .i64 ((LF m qs 0).2), .int .i64 ((LF m qs 1).1), .int .i64 ((LF m qs 1).2), .int .i64 ((LF m qs 2).1), .int .i64 ((LF m qs 2).2), .int .i64 ((LF m qs 3).1), .int .i64 ((LF m qs 3).2), .int .i64 ((LF m qs 4).1), .int .i64 ((LF m qs 4).2)] 111 (0, 0)⟩ (List.mem_of_getElem? (i := 2) (by kernel_rfl)))
      have hGk := (hA.at_.ok ⟨w5.heap.size, .cells #[.int .i64 ((GF m qs 0).1), .int .i64 ((GF m qs 0).2), .int .i64 ((GF m qs 1).1), .int .i64 ((GF m qs 1).2), .int .i64 ((GF m qs 2).1), .int .i64 ((GF m qs 2).2), .int .i64 ((GF m qs 3).1), .int .i64 ((GF m qs 3).2), .int .i64 ((GF m qs 4).1), .int .i64 ((GF m qs 4).2)] 111 (0, 0)⟩ (List.mem_of_getElem? (i := 3) (by kernel_rfl)))
      refine appNDS (t := 114) (e := 23) (ty := 114) (z := .agg #[.int .i64 0, .int .i64 0]) (size := 2) (bytes := 16) (n := 4) (cap := 4) (m := 1) (cp := 1) (A := some ⟨w5.heap.size, 0, none⟩) (A' := some ⟨w3.heap.size, 8, none⟩) [.int .i64 ((GF m qs 0).1), .int .i64 ((GF m qs 0).2), .int .i64 ((GF m qs 1).1), .int .i64 ((GF m qs 1).2), .int .i64 ((GF m qs 2).1), .int .i64 ((GF m qs 2).2), .int .i64 ((GF m qs 3).1), .int .i64 ((GF m qs 3).2)] [.int .i64 ((LF m qs 4).1), .int .i64 ((LF m qs 4).2)] hA (by kernel_rfl) rfl (block_reads (vs := [.int .i64 ((GF m qs 0).1), .int .i64 ((GF m qs 0).2), .int .i64 ((GF m qs 1).1), .int .i64 ((GF m qs 1).2), .int .i64 ((GF m qs 2).1), .int .i64 ((GF m qs 2).2), .int .i64 ((GF m qs 3).1), .int .i64 ((GF m qs 3).2)]) hGk (fun j u hu => by match j, hu with | 0, hu => exact hu | 1, hu => exact hu | 2, hu => exact hu | 3, hu => exact hu | 4, hu => exact hu | 5, hu => exact hu | 6, hu => exact hu | 7, hu => exact hu)) (fun h9 => by cases h9) (Nat.le_refl _) rfl (block_reads (vs := [.int .i64 ((LF m qs 4).1), .int .i64 ((LF m qs 4).2)]) hLk (fun j u hu => by match j, hu with | 0, hu => exact hu | 1, hu => exact hu)) rfl (by omega) (by omega) (by omega) (by omega) fun g1 c1 w9 ob1 hr1 hA => ?_
      refine runS hA 1 [.b false] xn on (by kernel_rfl) fun w10 hA => ?_
      have hrr := row_reads (hA.atK [⟨w.heap.size, .cells #[.int .i64 m, .slice A n c, .map (some mb)] 100 (0, 0)⟩, ⟨w.heap.size + 1, .cells #[.int .i64 0, .int .i64 0, .int .i64 0, .int .i64 0, .int .i64 0, .int .i64 0, .int .i64 0, .int .i64 0, .int .i64 0, .int .i64 0] 111 (0, 0)⟩, ⟨w3.heap.size, .cells #[.int .i64 ((LF m qs 0).1), .int .i64 ((LF m qs 0).2), .int .i64 ((LF m qs 1).1), .int .i64 ((LF m qs 1).2), .int .i64 ((LF m qs 2).1), .int .i64 ((LF m qs 2).2), .int .i64 ((LF m qs 3).1), .int .i64 ((LF m qs 3).2), .int .i64 ((LF m qs 4).1), .int .i64 ((LF m qs 4).2)] 111 (0, 0)⟩, ⟨w5.heap.size, .cells #[.int .i64 ((GF m qs 0).1), .int .i64 ((GF m qs 0).2), .int .i64 ((GF m qs 1).1), .int .i64 ((GF m qs 1).2), .int .i64 ((GF m qs 2).1), .int .i64 ((GF m qs 2).2), .int .i64 ((GF m qs 3).1), .int .i64 ((GF m qs 3).2), .int .i64 ((GF m qs 4).1), .int .i64 ((GF m qs 4).2)] 111 (0, 0)⟩, ⟨wr.heap.size, .cells #[.int .i64 0, .int .i64 0, .int .i64 0, .int .i64 0, .int .i64 0, .int .i64 0, .int .i64 0, .int .i64 0, .int .i64 0, .int .i64 0] 111 (0, 0)⟩] (by kernel_rfl)) hr1
      refine cpyS (kn' := [⟨w.heap.size, .cells #[.int .i64 m, .slice A n c, .map (some mb)] 100 (0, 0)⟩, ⟨w.heap.size + 1, .cells #[.int .i64 0, .int .i64 0, .int .i64 0, .int .i64 0, .int .i64 0, .int .i64 0, .int .i64 0, .int .i64 0, .int .i64 0, .int .i64 0] 111 (0, 0)⟩, ⟨w3.heap.size, .cells #[.int .i64 ((LF m qs 0).1), .int .i64 ((LF m qs 0).2), .int .i64 ((LF m qs 1).1), .int .i64 ((LF m qs 1).2), .int .i64 ((LF m qs 2).1), .int .i64 ((LF m qs 2).2), .int .i64 ((LF m qs 3).1), .int .i64 ((LF m qs 3).2), .int .i64 ((LF m qs 4).1), .int .i64 ((LF m qs 4).2)] 111 (0, 0)⟩, ⟨w5.heap.size, .cells #[.int .i64 ((GF m qs 0).1), .int .i64 ((GF m qs 0).2), .int .i64 ((GF m qs 1).1), .int .i64 ((GF m qs 1).2), .int .i64 ((GF m qs 2).1), .int .i64 ((GF m qs 2).2), .int .i64 ((GF m qs 3).1), .int .i64 ((GF m qs 3).2), .int .i64 ((GF m qs 4).1), .int .i64 ((GF m qs 4).2)] 111 (0, 0)⟩, ⟨wr.heap.size, .cells #[.int .i64 ((GF m qs 0).1), .int .i64 ((GF m qs 0).2), .int .i64 ((GF m qs 1).1), .int .i64 ((GF m qs 1).2), .int .i64 ((GF m qs 2).1), .int .i64 ((GF m qs 2).2), .int .i64 ((GF m qs 3).1), .int .i64 ((GF m qs 3).2), .int .i64 ((LF m qs 4).1), .int .i64 ((LF m qs 4).2)] 111 (0, 0)⟩]) (t := 114) (t' := 114) (ty := 3) (e := 23) (z := .agg #[.int .i64 0, .int .i64 0]) (size := 2) (bytes := 16) (g := wr.heap.size) (o := 0) (dLen := 5) (dCap := 5) (sLen := 5) (sCap := c1) (j := 4) (A := some ⟨g1, 0, none⟩) (cur := #[.int .i64 0, .int .i64 0, .int .i64 0, .int .i64 0, .int .i64 0, .int .i64 0, .int .i64 0, .int .i64 0, .int .i64 0, .int .i64 0]) (T := 111) [.int .i64 ((GF m qs 0).1), .int .i64 ((GF m qs 0).2), .int .i64 ((GF m qs 1).1), .int .i64 ((GF m qs 1).2), .int .i64 ((GF m qs 2).1), .int .i64 ((GF m qs 2).2), .int .i64 ((GF m qs 3).1), .int .i64 ((GF m qs 3).2), .int .i64 ((LF m qs 4).1), .int .i64 ((LF m qs 4).2)] hA (by kernel_rfl) (by kernel_rfl) rfl hrr (by simp) rfl fun w11 hzc hA => ?_
      replace hA := hA.bare
      refine runS hA 8 ([.k 0, .k 0, .k 0] ++ List.replicate 10 (.k 4)) xn on (by kernel_rfl) fun w12 hA => ?_
      refine callB hA [] on (rest_any w12 m A n c (.map (some mb)) (mixF m qs 4) 4 V.few (fun r hr => mix_chc V hr)) (by kernel_rfl) fun w13 hb13 hA => ?_
      have hrb := rst_bd V 4
      refine runS hA 14 [.k 4, .k 4, .k 4, .t 0] xn on (by kernel_rfl) fun w14 hA => ?_
      by_cases ht9 : ((rstF m qs 4).1 : Int) < (0 : Int)
      case pos =>
        refine runS hA 9 [.b true, .v (.int .i64 5)] xn (oc (dec_t ht9) (oc (show (.int .i64 5 : Value) = .int .i64 5 from rfl) on)) (by kernel_rfl) fun w15 hA => ?_
        have hok : okK m qs 4 = false := by unfold okK; rw [decide_eq_false (by omega)]; rfl
        have hno2 : ∀ l, l < 5 → okK m qs l = false := fun l hl => by rcases Nat.lt_succ_iff_lt_or_eq.1 hl with h | rfl; exact hno l h; exact hok
        exact again hJ (M - 5) (5) [true, true, true, true, false] hA (by omega) (by kernel_rfl) (⟨by omega, rfl, hno2⟩)
      case neg =>
        refine runS hA 14 [.b false, .k 0] xn (oc (dec_f ht9) on) (by kernel_rfl) fun w15 hA => ?_
        have hAc := hA.atK [⟨w.heap.size, .cells #[.int .i64 m, .slice A n c, .map (some mb)] 100 (0, 0)⟩, ⟨w.heap.size + 1, .cells #[.int .i64 0, .int .i64 0, .int .i64 0, .int .i64 0, .int .i64 0, .int .i64 0, .int .i64 0, .int .i64 0, .int .i64 0, .int .i64 0] 111 (0, 0)⟩, ⟨w3.heap.size, .cells #[.int .i64 ((LF m qs 0).1), .int .i64 ((LF m qs 0).2), .int .i64 ((LF m qs 1).1), .int .i64 ((LF m qs 1).2), .int .i64 ((LF m qs 2).1), .int .i64 ((LF m qs 2).2), .int .i64 ((LF m qs 3).1), .int .i64 ((LF m qs 3).2), .int .i64 ((LF m qs 4).1), .int .i64 ((LF m qs 4).2)] 111 (0, 0)⟩, ⟨w5.heap.size, .cells #[.int .i64 ((GF m qs 0).1), .int .i64 ((GF m qs 0).2), .int .i64 ((GF m qs 1).1), .int .i64 ((GF m qs 1).2), .int .i64 ((GF m qs 2).1), .int .i64 ((GF m qs 2).2), .int .i64 ((GF m qs 3).1), .int .i64 ((GF m qs 3).2), .int .i64 ((GF m qs 4).1), .int .i64 ((GF m qs 4).2)] 111 (0, 0)⟩, ⟨wr.heap.size, .cells (rtC (chF m qs 4)) 111 (0, 0)⟩] (by kernel_rfl)
        refine reknow ⟨[⟨w.heap.size, .cells #[.int .i64 m, .slice A n c, .map (some mb)] 100 (0, 0)⟩, ⟨w.heap.size + 1, .cells #[.int .i64 0, .int .i64 0, .int .i64 0, .int .i64 0, .int .i64 0, .int .i64 0, .int .i64 0, .int .i64 0, .int .i64 0, .int .i64 0] 111 (0, 0)⟩, ⟨w3.heap.size, .cells #[.int .i64 ((LF m qs 0).1), .int .i64 ((LF m qs 0).2), .int .i64 ((LF m qs 1).1), .int .i64 ((LF m qs 1).2), .int .i64 ((LF m qs 2).1), .int .i64 ((LF m qs 2).2), .int .i64 ((LF m qs 3).1), .int .i64 ((LF m qs 3).2), .int .i64 ((LF m qs 4).1), .int .i64 ((LF m qs 4).2)] 111 (0, 0)⟩, ⟨w5.heap.size, .cells #[.int .i64 ((GF m qs 0).1), .int .i64 ((GF m qs 0).2), .int .i64 ((GF m qs 1).1), .int .i64 ((GF m qs 1).2), .int .i64 ((GF m qs 2).1), .int .i64 ((GF m qs 2).2), .int .i64 ((GF m qs 3).1), .int .i64 ((GF m qs 3).2), .int .i64 ((GF m qs 4).1), .int .i64 ((GF m qs 4).2)] 111 (0, 0)⟩, ⟨wr.heap.size, .cells (rtC (chF m qs 4)) 111 (0, 0)⟩], w15.heap.size, [], [], [], [], []⟩ hAc.resize (Nat.zero_le _) fun hA => ?_
        refine loop (γ := Nat) (fun j => [(1, .pointer (some ⟨w.heap.size, 0, none⟩)), (2, .pointer (some ⟨w.heap.size + 1, 0, none⟩)), (3, .pointer (some ⟨w3.heap.size, 0, none⟩)), (4, .pointer (some ⟨w5.heap.size, 0, none⟩)), (6, .pointer (some ⟨wr.heap.size, 0, none⟩)), (17, .int .i64 m), (18, .int .i64 4), (42, .slice A n c), (43, .int .i64 n), (44, .int .i64 (j : Int))]) (fun j => [⟨w.heap.size, .cells #[.int .i64 m, .slice A n c, .map (some mb)] 100 (0, 0)⟩, ⟨w.heap.size + 1, .cells #[.int .i64 0, .int .i64 0, .int .i64 0, .int .i64 0, .int .i64 0, .int .i64 0, .int .i64 0, .int .i64 0, .int .i64 0, .int .i64 0] 111 (0, 0)⟩, ⟨w3.heap.size, .cells #[.int .i64 ((LF m qs 0).1), .int .i64 ((LF m qs 0).2), .int .i64 ((LF m qs 1).1), .int .i64 ((LF m qs 1).2), .int .i64 ((LF m qs 2).1), .int .i64 ((LF m qs 2).2), .int .i64 ((LF m qs 3).1), .int .i64 ((LF m qs 3).2), .int .i64 ((LF m qs 4).1), .int .i64 ((LF m qs 4).2)] 111 (0, 0)⟩, ⟨w5.heap.size, .cells #[.int .i64 ((GF m qs 0).1), .int .i64 ((GF m qs 0).2), .int .i64 ((GF m qs 1).1), .int .i64 ((GF m qs 1).2), .int .i64 ((GF m qs 2).1), .int .i64 ((GF m qs 2).2), .int .i64 ((GF m qs 3).1), .int .i64 ((GF m qs 3).2), .int .i64 ((GF m qs 4).1), .int .i64 ((GF m qs 4).2)] 111 (0, 0)⟩, ⟨wr.heap.size, .cells (rtC (chF m qs 4)) 111 (0, 0)⟩]) (fun _ => []) (fun g j wt => j ≤ n ∧ g = n - j ∧ ∀ l, l < j → fairF (qs[l]?.getD noQ).n (qs[l]?.getD noQ).d (qs[l]?.getD noQ).lay (chF m qs 4 (qs[l]?.getD noQ).r.toNat).1 (chF m qs 4 (qs[l]?.getD noQ).r.toNat).2 = true) n 0 [true, true, true, true, true] hA (by kernel_rfl) (⟨by omega, rfl, fun l hl => absurd hl (by omega)⟩) ?_
        rintro _ j wt ⟨hj, rfl, hall⟩ J2 hJ2 hA
        by_cases hlj : j < n
        case neg =>
          have hok : okK m qs 4 = true := by
            unfold okK
            rw [decide_eq_true (by omega), Bool.true_and, List.all_eq_true]
            intro q hq
            have hq9 := List.mem_iff_getElem.1 hq
            obtain ⟨l, hl9, rfl⟩ := hq9
            have := hall l (by omega)
            rwa [List.getElem?_eq_getElem hl9] at this
          have hfs := fair_some (by omega) hok hno
          refine runS hA 9 [.b false] xn (oc (dec_f (show ¬ (((j : Int) : Int) < (n : Int)) by omega)) on) (by kernel_rfl) fun w16 hA => ?_
          refine leave hA (by kernel_rfl) fun hA => ?_
          refine runS hA 11 ([.y 4 (.int .i64 ((chF m qs 4 0).1)), .y 4 (.int .i64 ((chF m qs 4 0).2)), .y 4 (.int .i64 ((chF m qs 4 1).1)), .y 4 (.int .i64 ((chF m qs 4 1).2)), .y 4 (.int .i64 ((chF m qs 4 2).1)), .y 4 (.int .i64 ((chF m qs 4 2).2)), .y 4 (.int .i64 ((chF m qs 4 3).1)), .y 4 (.int .i64 ((chF m qs 4 3).2)), .y 4 (.int .i64 ((chF m qs 4 4).1)), .y 4 (.int .i64 ((chF m qs 4 4).2))] ++ List.replicate 10 (.k 1)) xn (oc (show (rtC (chF m qs 4))[0]? = some (.int .i64 ((chF m qs 4 0).1)) from rfl) (oc (show (rtC (chF m qs 4))[1]? = some (.int .i64 ((chF m qs 4 0).2)) from rfl) (oc (show (rtC (chF m qs 4))[2]? = some (.int .i64 ((chF m qs 4 1).1)) from rfl) (oc (show (rtC (chF m qs 4))[3]? = some (.int .i64 ((chF m qs 4 1).2)) from rfl) (oc (show (rtC (chF m qs 4))[4]? = some (.int .i64 ((chF m qs 4 2).1)) from rfl) (oc (show (rtC (chF m qs 4))[5]? = some (.int .i64 ((chF m qs 4 2).2)) from rfl) (oc (show (rtC (chF m qs 4))[6]? = some (.int .i64 ((chF m qs 4 3).1)) from rfl) (oc (show (rtC (chF m qs 4))[7]? = some (.int .i64 ((chF m qs 4 3).2)) from rfl) (oc (show (rtC (chF m qs 4))[8]? = some (.int .i64 ((chF m qs 4 4).1)) from rfl) (oc (show (rtC (chF m qs 4))[9]? = some (.int .i64 ((chF m qs 4 4).2)) from rfl) on)))))))))) (by kernel_rfl) fun w17 hA => ?_
          refine leave hA (by kernel_rfl) fun hA => ?_
          refine runS hA 2 [] xn on (by kernel_rfl) fun w18 hA => ?_
          have h9 : fairV m qs = chF m qs 4 := by funext r; unfold fairV; rw [hfs]
          exact ret (v := .agg #[.int .i64 ((chF m qs 4 0).1), .int .i64 ((chF m qs 4 0).2), .int .i64 ((chF m qs 4 1).1), .int .i64 ((chF m qs 4 1).2), .int .i64 ((chF m qs 4 2).1), .int .i64 ((chF m qs 4 2).2), .int .i64 ((chF m qs 4 3).1), .int .i64 ((chF m qs 4 3).2), .int .i64 ((chF m qs 4 4).1), .int .i64 ((chF m qs 4 4).2)]) hA (List.replicate 10 (.k 1)) (by kernel_rfl) ⟨by rw [h9]; rfl, hA.below⟩
        case pos =>
          have hq9 := hx.at (hlj)
          obtain ⟨b, off, rfl, hlb, hcb⟩ := hq9
          have k0 := hcb 0 _ rfl
          have k1 := hcb 1 _ rfl
          have k2 := hcb 2 _ rfl
          have k3 := hcb 3 _ rfl
          have hqv := V.all _ (get_mem (d := noQ) (show j < qs.length by omega))
          have hcb9 := ch_bd V 4 (r := (qs[j]?.getD noQ).r.toNat) (by omega)
          have hgt9 := rtC_get (f := chF m qs 4) (show (qs[j]?.getD noQ).r.toNat < 5 by omega)
          refine runS hA 20 ([.b true, .i, .x (.int .i64 ((qs[j]?.getD noQ).r)), .x (.int .i64 ((qs[j]?.getD noQ).n)), .x (.int .i64 ((qs[j]?.getD noQ).d)), .x (.bool ((qs[j]?.getD noQ).lay))] ++ List.replicate 4 (.k 5)) (xc (a := ⟨b, off + j * 4, none⟩) ⟨Nat.lt_of_lt_of_le hlb hB, k0⟩ (xc (a := ⟨b, off + j * 4 + 1, none⟩) ⟨Nat.lt_of_lt_of_le hlb hB, k1⟩ (xc (a := ⟨b, off + j * 4 + 2, none⟩) ⟨Nat.lt_of_lt_of_le hlb hB, k2⟩ (xc (a := ⟨b, off + j * 4 + 3, none⟩) ⟨Nat.lt_of_lt_of_le hlb hB, k3⟩ xn)))) (oc (dec_t (show (((j : Int) : Int) < (n : Int)) by omega)) (oc (show (0 : Int) ≤ ((j : Int) : Int) ∧ ((j : Int) : Int) < (n : Int) by omega) on)) (by kernel_rfl) fun w16 hA => ?_
          refine draw hA [true, true, true, true, true, true] [0, 1, 2, 3, 4, 5, 6] (by kernel_rfl) (by kernel_rfl) fun hA => ?_
          refine runS hA 5 ([.t 0] ++ List.replicate 4 (.k 5) ++ [.t 1, .t 2, .k 5, .t 3, .i, .t 4, .y 4 (.int .i64 ((chF m qs 4 (qs[j]?.getD noQ).r.toNat).1)), .y 4 (.int .i64 ((chF m qs 4 (qs[j]?.getD noQ).r.toNat).2))]) xn (oc (show (0 : Int) ≤ ((qs[j]?.getD noQ).r : Int) ∧ ((qs[j]?.getD noQ).r : Int) < (5 : Int) by omega) (oc (show (rtC (chF m qs 4))[0 + ((qs[j]?.getD noQ).r.toNat) * 2]? = some (.int .i64 ((chF m qs 4 (qs[j]?.getD noQ).r.toNat).1)) from hgt9.1) (oc (show (rtC (chF m qs 4))[0 + ((qs[j]?.getD noQ).r.toNat) * 2 + 1]? = some (.int .i64 ((chF m qs 4 (qs[j]?.getD noQ).r.toNat).2)) from hgt9.2) on))) (by kernel_rfl) fun w17 hA => ?_
          refine callB hA [] on (isFair_any w17 ((qs[j]?.getD noQ).r) ((qs[j]?.getD noQ).n) ((qs[j]?.getD noQ).d) ((qs[j]?.getD noQ).lay) ((chF m qs 4 (qs[j]?.getD noQ).r.toNat).1) ((chF m qs 4 (qs[j]?.getD noQ).r.toNat).2) (hqv.2.1) (hqv.2.2) ((by omega)) ((by omega))) (by kernel_rfl) fun w18 hb18 hA => ?_
          refine runS hA 3 [.t 6, .b true, .t 0] xn on (by kernel_rfl) fun w19 hA => ?_
          have hq9 := Bool.eq_false_or_eq_true ((fairF ((qs[j]?.getD noQ).n) ((qs[j]?.getD noQ).d) ((qs[j]?.getD noQ).lay) ((chF m qs 4 (qs[j]?.getD noQ).r.toNat).1) ((chF m qs 4 (qs[j]?.getD noQ).r.toNat).2)))
          rcases hq9 with ht10 | ht10
          ·
            refine runS hA 8 [.b false, .v (.int .i64 ((j : Int) + 1))] xn (oc (show Value.bool (!(fairF ((qs[j]?.getD noQ).n) ((qs[j]?.getD noQ).d) ((qs[j]?.getD noQ).lay) ((chF m qs 4 (qs[j]?.getD noQ).r.toNat).1) ((chF m qs 4 (qs[j]?.getD noQ).r.toNat).2))) = .bool false by rw [ht10] <;> rfl) (oc (show Value.int .i64 (IntKind.i64.wrap ((j : Int) + 1)) = .int .i64 ((j : Int) + 1) from wrp (by omega)) on)) (by kernel_rfl) fun w20 hA => ?_
            refine revals hA (rc 44 (show .int .i64 ((j : Int) + 1) = .int .i64 ((j + 1 : Nat) : Int) by rw [show ((j + 1 : Nat) : Int) = (j : Int) + 1 by omega]) rn) (by kernel_rfl) fun hA => ?_
            exact again hJ2 (n - (j + 1)) (j + 1) [true, true, true, true, true, false] hA (by omega) (by kernel_rfl) (⟨by omega, rfl, fun l hl => by rcases Nat.lt_succ_iff_lt_or_eq.1 hl with h | rfl; exact hall l h; exact ht10⟩)
          ·
            refine runS hA 4 [.b true] xn (oc (show Value.bool (!(fairF ((qs[j]?.getD noQ).n) ((qs[j]?.getD noQ).d) ((qs[j]?.getD noQ).lay) ((chF m qs 4 (qs[j]?.getD noQ).r.toNat).1) ((chF m qs 4 (qs[j]?.getD noQ).r.toNat).2))) = .bool true by rw [ht10] <;> rfl) on) (by kernel_rfl) fun w20 hA => ?_
            refine leave hA (by kernel_rfl) fun hA => ?_
            refine runS hA 8 [.v (.int .i64 5)] xn (oc (show (.int .i64 5 : Value) = .int .i64 5 from rfl) on) (by kernel_rfl) fun w21 hA => ?_
            have hok : okK m qs 4 = false := by
              unfold okK
              rw [Bool.and_eq_false_iff, List.all_eq_false]
              exact .inr ⟨_, get_mem (d := noQ) (show j < qs.length by omega), by rw [ht10]; decide⟩
            have hno2 : ∀ l, l < 5 → okK m qs l = false := fun l hl => by rcases Nat.lt_succ_iff_lt_or_eq.1 hl with h | rfl; exact hno l h; exact hok
            exact again hJ (M - 5) (5) [true, true, true, true, false, false] hA (by omega) (by kernel_rfl) (⟨by omega, rfl, hno2⟩)
end Go.Proofs.Ytfidkgpimlpdbaa
