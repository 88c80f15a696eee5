/- Parts of a proof: QK QL QM QN QO QP QR QS QT. -/
import Derived.Test.YtbahiemjaomdcaaGreatF7

/- pool: slices.Delete of one element of a row of the call's own. -/
namespace Go.Proofs.YtbahiemjaomdcaaGreat
open Go.RowKit Go.Shelf

theorem take_get {cur : Array Value} {n j : Nat} {xs : List Int} (h : cur.toList.take n = ints xs) (hj : j < n) (hx : xs.length = n) : cur[j]? = some (.int .i64 (xs[j]?.getD 0)) := by
  have h1 : (cur.toList.take n)[j]? = (ints xs)[j]? := by rw [h]
  rw [List.getElem?_take_of_lt hj, Array.getElem?_toList] at h1
  rw [h1]
  unfold ints
  rw [List.getElem?_map, List.getElem?_eq_getElem (by omega)]
  rfl
theorem row_get {w0 w : World} {kn rest : List KB} {sz g : Nat} {cur : Array Value} {T : TypeId} (h : At w0 w kn (⟨g, .cells cur T (0, 0)⟩ :: rest) sz) (j : Nat) : w.cell? ⟨g, j, none⟩ = cur[j]? ∧ w.frozen? ⟨g, j, none⟩ = false := by
  have hg : w.heap[g]? = some (.cells cur T (0, 0)) := h.rok ⟨g, .cells cur T (0, 0)⟩ List.mem_cons_self
  constructor
  · unfold World.cell?
    rw [hg]
    rfl
  · unfold World.frozen?
    rw [hg]
    simp
theorem infoI : ∃ i, Tryz.prog.info? 3 = some i ∧ i.size = 1 ∧ i.zero = some (.int .i64 0) := by
  obtain ⟨i, hi⟩ : ∃ i, Tryz.prog.info? 3 = some i := Option.isSome_iff_exists.1 (by kernel_rfl)
  have h1 : (Tryz.prog.info? 3).map (fun i => (i.size, i.zero)) = some (1, some (.int .i64 0)) := by kernel_rfl
  rw [hi] at h1
  simp only [Option.map_some, Option.some.injEq, Prod.mk.injEq] at h1
  exact ⟨i, hi, h1.1, h1.2⟩
set_option maxRecDepth 20000 in
theorem delete_any {w w0 : World} {kn rest : List KB} {g n cap : Nat} {cur : Array Value} {xs : List Int} {i : Nat} (hA : At w0 w kn (⟨g, .cells cur 3 (0, 0)⟩ :: rest) w.heap.size) (hcur : cur.toList.take n = ints xs) (hcs : cur.size = cap) (hn : n ≤ cap) (hi : i < n) :
    Calls Tryz.prog 87 #[.slice (some ⟨g, 0, none⟩) n cap, .int .i64 (i : Int), .int .i64 ((i + 1 : Nat) : Int)] w fun e w' => e = .returned (.slice (some ⟨g, 0, none⟩) (n - 1) cap) ∧ w.heap.size ≤ w'.heap.size ∧
      ∃ cur' : Array Value, cur'.size = cap ∧ cur'.toList.take (n - 1) = ints (xs.eraseIdx i) ∧ At w0 w' kn (⟨g, .cells cur' 3 (0, 0)⟩ :: rest) w'.heap.size := by
  have hxl : xs.length = n := by have := congrArg List.length hcur; simp [ints] at this; omega
  refine enterK 33 Tryz.func87 (by kernel_rfl) hA fun hA => ?_
  refine runS hA 34 [.i, .b false] xn (oc (show (0 : Int) ≤ ((i : Int) : Int) ∧ ((i : Int) : Int) ≤ (((i + 1 : Nat) : Int) : Int) ∧ (((i + 1 : Nat) : Int) : Int) ≤ (n : Int) ∧ (n : Int) ≤ (cap : Int) by omega) (oc (eq_f (a := (i : Int)) (b := ((i + 1 : Nat) : Int)) (by omega)) on)) (by kernel_rfl) fun w1 hA => ?_
  refine draw hA [] [0, 1, 2, 3, 4, 5] (by kernel_rfl) (by kernel_rfl) fun hA => ?_
  refine runS hA 7 [.t 0, .t 1, .t 2, .i, .t 3, .t 4, .t 5, .i, .b false] xn (oc (show (0 : Int) ≤ (0 : Int) ∧ (0 : Int) ≤ ((i : Int) : Int) ∧ ((i : Int) : Int) ≤ (cap : Int) ∧ (cap : Int) ≤ (cap : Int) by omega) (oc (show (0 : Int) ≤ (((i + 1 : Nat) : Int) : Int) ∧ (((i + 1 : Nat) : Int) : Int) ≤ (n : Int) ∧ (n : Int) ≤ (cap : Int) ∧ (cap : Int) ≤ (cap : Int) by omega) on)) (by kernel_rfl) fun w2 hA => ?_
  obtain ⟨o2, ho2, ho3⟩ : ∃ o2, subA (some ⟨g, 0, none⟩) (i + 1) cap 1 = some ⟨g, o2, none⟩ ∧ (i + 1 < n → o2 = i + 1) := by
    by_cases hc : cap = i + 1
    · exact ⟨0, by unfold subA; rw [if_pos hc], fun h => by omega⟩
    · exact ⟨i + 1, by rw [subA_at hc]; simp, fun _ => rfl⟩
  refine revals hA (rc 22 (show .slice (subA (some ⟨g, 0, none⟩) 0 cap 1) i cap = .slice (some ⟨g, 0, none⟩) i cap by rw [subA_lo]) (rc 25 (show .slice (subA (some ⟨g, 0, none⟩) (i + 1) cap 1) (n - (i + 1)) (cap - (i + 1)) = .slice (some ⟨g, o2, none⟩) (n - (i + 1)) (cap - (i + 1)) by rw [ho2]) rn)) (by kernel_rfl) fun hA => ?_
  obtain ⟨ii, hii, hs1, hz1⟩ := infoI
  have hA1 := hA.atK kn (by kernel_rfl)
  have hs2 : w2.heap.size = w.heap.size := hA.at_.size.trans (by kernel_rfl)
  have hnl : (ints (xs.drop (i + 1))).length = n - (i + 1) := by simp [ints, hxl]
  have hnw : ∀ j u, (ints (xs.drop (i + 1)))[j]? = some u → w2.cell? (Addr.add ⟨g, o2, none⟩ j) = some u := fun j u hu => by
    obtain ⟨hj, rfl⟩ := ints_get hu
    rw [List.length_drop] at hj
    rw [add_place, ho3 (by omega), (row_get hA1 _).1, take_get hcur (by omega) hxl, List.getElem?_drop]
  have hrun := run_append_room_cells (P := Tryz.prog) w2 23 23 3 ii Tryz.underlying23 hii g 0 i cap ⟨g, o2, none⟩ (n - (i + 1)) (cap - (i + 1)) (ints (xs.drop (i + 1))) (by rw [hnl, hs1]; omega) hnw (ones_of (ints_ones _)) (by omega) (fun j hj => by rw [hs1, (row_get hA1 _).1, Array.getElem?_eq_getElem (by omega)]; rfl) (fun j hj => (row_get hA1 _).2)
  obtain ⟨cur1, hc1, hc2, hA2⟩ := At.setRow (ints (xs.drop (i + 1))) (0 + i * ii.size) w2 cur hA1 (by rw [hnl, hs1]; omega)
  rw [hs1, hnl] at hc2
  obtain ⟨n1, hn1⟩ : ∃ n1, i + (n - (i + 1)) = n1 := ⟨_, rfl⟩
  rw [hn1] at hrun
  refine opw [] on (s := appSem 23 23 (.slice (some ⟨g, 0, none⟩) i cap) (.slice (some ⟨g, o2, none⟩) (n - (i + 1)) (cap - (i + 1)))) (by kernel_rfl) (nx := .value (.slice (some ⟨g, 0, none⟩) n1 cap)) (val_run hrun) (.inl rfl) hA2.resize (Nat.zero_le _) fun hA => ?_
  obtain ⟨wa, hwa⟩ : ∃ x, w2.setCells g (0 + i * ii.size) (ints (xs.drop (i + 1))) = x := ⟨_, rfl⟩
  rw [hwa] at hA hA2
  have hs3 : wa.heap.size = w2.heap.size := hA2.size.trans hA1.size.symm
  rw [hwa]
  refine runS hA 10 [.i] xn (oc (show (0 : Int) ≤ (n1 : Int) ∧ (n1 : Int) ≤ (n : Int) ∧ (n : Int) ≤ (cap : Int) ∧ (cap : Int) ≤ (cap : Int) by omega) on) (by kernel_rfl) fun w3 hA => ?_
  have hA3 : At w0 w3 kn (⟨g, .cells cur1 3 (0, 0)⟩ :: rest) w3.heap.size := (hA.atK kn (by kernel_rfl)).resize
  have hs4 : w3.heap.size = wa.heap.size := hA.at_.size.trans (by kernel_rfl)
  refine revals hA (rc 31 (show .slice (subA (some ⟨g, 0, none⟩) n1 cap 1) (n - n1) (cap - n1) = .slice (some ⟨g, (n - 1), none⟩) 1 (cap - (n - 1)) by rw [subA_at (by omega), show n1 = n - 1 by omega, show n - (n - 1) = 1 by omega]; simp) rn) (by kernel_rfl) fun hA => ?_
  have hrun2 := Lib.run_clear_slice (P := Tryz.prog) w3 23 3 0 (.int .i64 0) Tryz.underlying23 (fun w => by simp [zeroValue, typeInfo, hii, hz1]) rfl rfl g (n - 1) 1 (cap - (n - 1)) (by omega) (fun j hj => by rw [(row_get hA3 _).1, Array.getElem?_eq_getElem (by rw [hc1]; omega)]; rfl) (fun j hj => (row_get hA3 _).2)
  obtain ⟨cur2, hd1, hd2, hA4⟩ := At.setRow (List.replicate 1 (.int .i64 0)) (n - 1) w3 cur1 hA3 (by rw [hc1]; simp; omega)
  refine opw [] on (s := clrSem 23 0 (.slice (some ⟨g, (n - 1), none⟩) 1 (cap - (n - 1)))) (by kernel_rfl) (nx := .value (.tuple #[])) (val_run hrun2) (.inl rfl) hA4.resize (Nat.zero_le _) fun hA => ?_
  obtain ⟨wb, hwb⟩ : ∃ x, w3.setCells g (n - 1) (List.replicate 1 (.int .i64 0)) = x := ⟨_, rfl⟩
  rw [hwb] at hA hA4
  have hs5 : wb.heap.size = w3.heap.size := hA4.size.trans hA3.size.symm
  rw [hwb]
  refine runS hA 9 [] xn on (by kernel_rfl) fun w4 hA => ?_
  have hfin : cur2.toList.take (n - 1) = ints (xs.eraseIdx i) := by
    apply List.ext_getElem?
    intro j
    by_cases hj : j < n - 1
    · rw [List.getElem?_take_of_lt hj, Array.getElem?_toList, hd2, if_neg (by omega), hc2]
      simp only [ints, List.getElem?_map, List.getElem?_eraseIdx, List.getElem?_drop]
      by_cases hji : j < i
      · rw [if_neg (by omega), if_pos hji, take_get hcur (by omega) hxl, List.getElem?_eq_getElem (by omega)]; rfl
      · rw [if_pos (by omega), if_neg hji, show i + 1 + (j - (0 + i * 1)) = j + 1 by omega]
    · rw [List.getElem?_take_eq_none (by omega), List.getElem?_eq_none (by simp [ints, List.length_eraseIdx, hxl]; split <;> omega)]
  have hs6 : w4.heap.size = wb.heap.size := hA.at_.size.trans (by kernel_rfl)
  exact ret (v := .slice (some ⟨g, 0, none⟩) n1 cap) hA [] (by kernel_rfl) ⟨by rw [show n1 = n - 1 by omega], by omega, cur2, by rw [hd1, hc1, hcs], hfin, (hA.atK kn (by kernel_rfl)).resize⟩
end Go.Proofs.YtbahiemjaomdcaaGreat

/- pool: isFinish. -/
namespace Go.Proofs.YtbahiemjaomdcaaGreat
open Go.RowKit Go.Shelf

/-- Where a runner stands among those that are still to come. -/
def posF (x : Int) (xs : List Int) : Option Nat := xs.findIdx? fun y => y == x
/-- Who is still to come behind these runners; none if one of them cannot come in. -/
def remF : List Int → List Int → Option (List Int)
  | co, [] => some co
  | co, r :: rs => match posF r co with
    | some q => remF (co.eraseIdx q) rs
    | none => none
def grpF : List Int → List (List Int) → Option (List Int)
  | co, [] => some co
  | co, F :: fs => if F.length = 0 ∨ incF F = false then none else (remF co F).bind fun c2 => grpF c2 fs
def isFinF (b : Bk) (fs : List (List Int)) : Bool := decide (grpF (racN b) fs = some [])
theorem posF_some {x : Int} {xs : List Int} {q : Nat} (hq : q < xs.length) (e : xs[q]?.getD 0 = x) (h : ∀ j, j < q → xs[j]?.getD 0 ≠ x) : posF x xs = some q := by
  unfold posF
  rw [List.findIdx?_eq_some_iff_getElem]
  refine ⟨hq, ?_, fun j hj => ?_⟩
  · rw [List.getElem?_eq_getElem hq] at e
    simpa using e
  · have := h j hj
    rw [List.getElem?_eq_getElem (by omega)] at this
    simpa using this
theorem posF_none {x : Int} {xs : List Int} (h : ∀ j, j < xs.length → xs[j]?.getD 0 ≠ x) : posF x xs = none := by
  unfold posF
  rw [List.findIdx?_eq_none_iff]
  intro y hy
  obtain ⟨j, hj, rfl⟩ := List.mem_iff_getElem.1 hy
  have := h j hj
  rw [List.getElem?_eq_getElem hj] at this
  simpa using this
theorem drop_get {α : Type} {l : List α} {k : Nat} {d : α} (h : k < l.length) : l.drop k = l[k]?.getD d :: l.drop (k + 1) := by
  rw [List.getElem?_eq_getElem h]
  exact List.drop_eq_getElem_cons h
theorem incB (w : World) (B : Nat) (A : Option Addr) (n c : Nat) (xs : List Int) (hx : IntsAt w B A n xs) :
    Calls Tryz.prog 85 #[.slice A n c] w fun e w' => e = .returned (.bool (incF xs)) ∧ Below w.heap.size w w' :=
  (increasing_any w B A n c xs hx).mono fun e w' h => ⟨h.1, by obtain ⟨q, rfl⟩ := h.2; exact below_drewN w q⟩
theorem row_ints {w0 w : World} {kn rest : List KB} {sz g n : Nat} {cur : Array Value} {xs : List Int} (h : At w0 w kn (⟨g, .cells cur 3 (0, 0)⟩ :: rest) sz) (ht : cur.toList.take n = ints xs) (hx : xs.length = n) (hn : n ≤ 1000000) : IntsAt w w.heap.size (some ⟨g, 0, none⟩) n xs :=
  ⟨hx, by omega, fun _ => ⟨g, 0, rfl, h.rlt (kb := ⟨g, .cells cur 3 (0, 0)⟩) List.mem_cons_self, fun j hj => by rw [Nat.zero_add, (row_get h j).1, take_get ht hj hx]⟩⟩
set_option maxRecDepth 20000 in
theorem isFinish_any (w : World) (B : Nat) (b : Bk) (A : Option Addr) (n c : Nat) (A2 : Option Addr) (m c2 : Nat) (A3 : Option Addr) (nf cf : Nat) (fs : List (List Int)) (hx : IntsAt w B A2 m b.scr) (hf : FinAt w B A3 nf fs) (hB : B ≤ w.heap.size) (hrn : 0 ≤ b.runners ∧ b.runners ≤ 1000) (hr0 : 0 < (racN b).length) (hrl : (racN b).length ≤ 1000) :
    Calls Tryz.prog 59 #[bkV b A n c A2 m c2, .slice A3 nf cf] w fun e w' => e = .returned (.bool (isFinF b fs)) ∧ Below w.heap.size w w' := by
  refine enter 48 Tryz.func59 (by kernel_rfl) fun hA => ?_
  refine runS hA 9 (List.replicate 8 (.k 0)) xn on (by kernel_rfl) fun w1 hA => ?_
  have hA0 := hA.atK [⟨w.heap.size, .cells #[.int .i64 b.kind, .int .i64 b.runners, .slice A n c, .slice A2 m c2, .bool b.fav, .int .i64 b.car, .int .i64 b.dut, .int .i64 b.stp] 72 (0, 0)⟩] (by kernel_rfl)
  refine call hA [] on (racing_any w1 B b A n c A2 m c2 (hx.below hA.below hB) (Nat.le_trans hB hA.size) hrn) (by kernel_rfl) (by rintro e v ⟨v2, rfl, -, hb⟩; exact hb) ?_
  rintro e w2 ⟨v, rfl, hown, hbr⟩
  refine ⟨_, rfl, fun hA => ?_⟩
  obtain ⟨ob, hr, hA2⟩ := At.own hA0 hbr hown
  rw [List.append_nil] at hA2
  obtain ⟨gb, cap, cur, rfl, rfl, q1, q2, q3, q4⟩ : ∃ gb cap cur, v = .slice (some ⟨gb, 0, none⟩) (racN b).length cap ∧ ob = [⟨gb, .cells cur 3 (0, 0)⟩] ∧ _ := by
    rcases hr.2 with ⟨-, h, -⟩ | h
    · omega
    · exact h
  rw [Nat.mul_one] at q3 q4
  refine reknow ⟨[⟨w.heap.size, .cells #[.int .i64 b.kind, .int .i64 b.runners, .slice A n c, .slice A2 m c2, .bool b.fav, .int .i64 b.car, .int .i64 b.dut, .int .i64 b.stp] 72 (0, 0)⟩], w2.heap.size, [], [], [], [], []⟩ hA2 (Nat.zero_le _) fun hA => ?_
  refine runS hA 12 [] xn on (by kernel_rfl) fun w3 hA => ?_
  refine loop (γ := Nat × List Int × Array Value) (fun ⟨k, co, cur⟩ => [(5, .slice (some ⟨gb, 0, none⟩) co.length cap), (13, .slice A3 nf cf), (14, .int .i64 nf), (15, .int .i64 (k : Int))]) (fun ⟨k, co, cur⟩ => [⟨w.heap.size, .cells #[.int .i64 b.kind, .int .i64 b.runners, .slice A n c, .slice A2 m c2, .bool b.fav, .int .i64 b.car, .int .i64 b.dut, .int .i64 b.stp] 72 (0, 0)⟩]) (fun ⟨k, co, cur⟩ => [⟨gb, .cells cur 3 (0, 0)⟩]) (fun g ⟨k, co, cur⟩ wr => k ≤ nf ∧ g = nf - k ∧ cur.size = cap ∧ cur.toList.take co.length = ints co ∧ co.length ≤ cap ∧ co.length ≤ 1000 ∧ grpF (racN b) fs = grpF co (fs.drop k)) nf ⟨0, racN b, cur⟩ [true] hA (by kernel_rfl) (⟨Nat.zero_le _, rfl, q3, q4, q1, hrl, rfl⟩) ?_
  rintro _ ⟨k, co, cur⟩ wr ⟨hk, rfl, hcs, hct, hcl, hco, hgr⟩ J hJ hA
  by_cases hlt : k < nf
  case neg =>
    refine runS hA 9 [.b false] xn (oc (dec_f (show ¬ (((k : Int) : Int) < (nf : Int)) by omega)) on) (by kernel_rfl) fun w4 hA => ?_
    refine leave hA (by kernel_rfl) fun hA => ?_
    refine runS hA 11 [] xn on (by kernel_rfl) fun w5 hA => ?_
    have hkn : k = nf := by omega
    rw [hkn, List.drop_of_length_le (by rw [hf.1]; exact Nat.le_refl _)] at hgr
    exact ret (v := .bool ((co.length : Int) == 0)) hA [] (by kernel_rfl) ⟨by unfold isFinF; rw [hgr]; congr 2; cases co with | nil => simp [grpF] | cons a l => simp [grpF]; omega, hA.below⟩
  case pos =>
    obtain ⟨b0, off, rfl, hbB, hcc⟩ := hf.2.2 (by omega)
    obtain ⟨A', c', k1, l1, x1⟩ := hcc k hlt
    have hdr := drop_get (l := fs) (k := k) (d := []) (by rw [hf.1]; exact hlt)
    have hc' : b0 < w.heap.size ∧ w.cell? ⟨b0, off + k * 1, none⟩ = some (.slice A' (fs[k]?.getD []).length c') := ⟨by omega, by simpa using k1⟩
    obtain ⟨F, hF⟩ : ∃ F, F = fs[k]?.getD [] := ⟨_, rfl⟩
    rw [← hF] at hc' l1 x1 hdr
    rw [hdr] at hgr
    have hFs := x1.small
    by_cases hF0 : F.length = 0
    case pos =>
      refine runS hA 41 [.b true, .i, .x (.slice A' F.length c'), .g true] (xc (a := ⟨b0, off + k * 1, none⟩) hc' xn) (oc (dec_t (show (((k : Int) : Int) < (nf : Int)) by omega)) (oc (show (0 : Int) ≤ ((k : Int) : Int) ∧ ((k : Int) : Int) < (nf : Int) by omega) (oc (eq_t (a := (F.length : Int)) (b := 0) (by omega)) on))) (by kernel_rfl) fun w4 hA => ?_
      refine leave hA (by kernel_rfl) fun hA => ?_
      refine runS hA 2 [] xn on (by kernel_rfl) fun w5 hA => ?_
      exact ret (v := .bool false) hA [] (by kernel_rfl) ⟨by unfold isFinF; rw [hgr]; simp [grpF, hF0], hA.below⟩
    case neg =>
      refine runS hA 26 [.b true, .i, .x (.slice A' F.length c'), .g false] (xc (a := ⟨b0, off + k * 1, none⟩) hc' xn) (oc (dec_t (show (((k : Int) : Int) < (nf : Int)) by omega)) (oc (show (0 : Int) ≤ ((k : Int) : Int) ∧ ((k : Int) : Int) < (nf : Int) by omega) (oc (eq_f (a := (F.length : Int)) (b := 0) (by omega)) on))) (by kernel_rfl) fun w4 hA => ?_
      refine callB hA [] on (incB w4 B A' F.length c' F (x1.below hA.below hB)) (by kernel_rfl) fun w5 hb5 hA => ?_
      rcases Bool.eq_false_or_eq_true (incF F) with hinc | hinc
      rotate_left
      ·
        refine revals hA (rc 24 (show .bool (incF F) = .bool false by rw [hinc]) rn) (by kernel_rfl) fun hA => ?_
        refine runS hA 14 [] xn on (by kernel_rfl) fun w6 hA => ?_
        refine leave hA (by kernel_rfl) fun hA => ?_
        refine runS hA 2 [] xn on (by kernel_rfl) fun w7 hA => ?_
        exact ret (v := .bool false) hA [] (by kernel_rfl) ⟨by unfold isFinF; rw [hgr]; simp [grpF, hinc], hA.below⟩
      ·
        refine revals hA (rc 24 (show .bool (incF F) = .bool true by rw [hinc]) rn) (by kernel_rfl) fun hA => ?_
        refine runS hA 15 [] xn on (by kernel_rfl) fun w6 hA => ?_
        have hgi : grpF (racN b) fs = (remF co (F.drop 0)).bind fun c2 => grpF c2 (fs.drop (k + 1)) := by rw [hgr, List.drop_zero]; simp [grpF, hF0, hinc]
        refine loop (γ := Nat × List Int × Array Value) (fun ⟨j, ci, cu⟩ => [(5, .slice (some ⟨gb, 0, none⟩) ci.length cap), (13, .slice (some ⟨b0, off, none⟩) nf cf), (14, .int .i64 nf), (15, .int .i64 (k : Int)), (27, .slice A' F.length c'), (28, .int .i64 F.length), (29, .int .i64 (j : Int))]) (fun ⟨j, ci, cu⟩ => [⟨w.heap.size, .cells #[.int .i64 b.kind, .int .i64 b.runners, .slice A n c, .slice A2 m c2, .bool b.fav, .int .i64 b.car, .int .i64 b.dut, .int .i64 b.stp] 72 (0, 0)⟩]) (fun ⟨j, ci, cu⟩ => [⟨gb, .cells cu 3 (0, 0)⟩]) (fun g ⟨j, ci, cu⟩ wt => j ≤ F.length ∧ g = F.length - j ∧ cu.size = cap ∧ cu.toList.take ci.length = ints ci ∧ ci.length ≤ cap ∧ ci.length ≤ 1000 ∧ grpF (racN b) fs = (remF ci (F.drop j)).bind fun c2 => grpF c2 (fs.drop (k + 1))) F.length ⟨0, co, cur⟩ [true] hA (by kernel_rfl) (⟨Nat.zero_le _, rfl, hcs, hct, hcl, hco, hgi⟩) ?_
        clear hgr
        rintro _ ⟨j, ci, cu⟩ wt ⟨hj, rfl, hus, hut, hul, huo, hgr⟩ J2 hJ2 hA
        by_cases hlj : j < F.length
        case neg =>
          refine runS hA 9 [.b false] xn (oc (dec_f (show ¬ (((j : Int) : Int) < (F.length : Int)) by omega)) on) (by kernel_rfl) fun w7 hA => ?_
          refine leave hA (by kernel_rfl) fun hA => ?_
          refine runS hA 7 [] xn on (by kernel_rfl) fun w8 hA => ?_
          rw [List.drop_of_length_le (by omega)] at hgr
          refine revals hA (rc 15 (wr64 (x := (k : Int) + 1) (y := ((k + 1 : Nat) : Int)) (by have := hf.2.1; omega) (by omega)) rn) (by kernel_rfl) fun hA => ?_
          exact again hJ (nf - (k + 1)) (⟨k + 1, ci, cu⟩) [true] hA (by omega) (by kernel_rfl) ⟨by omega, rfl, hus, hut, hul, huo, hgr⟩
        case pos =>
          obtain ⟨b1, off1, rfl, hb1, hx1⟩ := x1.cell hlj
          have hxc : b1 < w.heap.size ∧ w.cell? ⟨b1, off1 + j * 1, none⟩ = some (.int .i64 (F[j]?.getD 0)) := ⟨by omega, by simpa using hx1⟩
          rw [drop_get (l := F) (k := j) (d := 0) hlj] at hgr
          refine runS hA 22 [.b true, .i, .x (.int .i64 (F[j]?.getD 0))] (xc (a := ⟨b1, off1 + j * 1, none⟩) hxc xn) (oc (dec_t (show (((j : Int) : Int) < (F.length : Int)) by omega)) (oc (show (0 : Int) ≤ ((j : Int) : Int) ∧ ((j : Int) : Int) < (F.length : Int) by omega) on)) (by kernel_rfl) fun w7 hA => ?_
          have hAk := hA.atK [⟨w.heap.size, .cells #[.int .i64 b.kind, .int .i64 b.runners, .slice A n c, .slice A2 m c2, .bool b.fav, .int .i64 b.car, .int .i64 b.dut, .int .i64 b.stp] 72 (0, 0)⟩] (by kernel_rfl)
          refine call hA [] on (index_any w7 w7.heap.size (some ⟨gb, 0, none⟩) ci.length cap ci (F[j]?.getD 0) (row_ints hAk hut rfl (by omega))) (by kernel_rfl) (by rintro e v ⟨r, rfl, hw, hix⟩; exact by rw [hw]; exact Below.refl _ _) ?_
          rintro e w8 ⟨r, rfl, hw, hix⟩
          refine ⟨_, rfl, fun hA => ?_⟩
          rcases hix with ⟨q, hq, rfl, he, hfst⟩ | ⟨rfl, hno⟩
          rotate_left
          ·
            refine runS hA 20 [] xn on (by kernel_rfl) fun w9 hA => ?_
            refine leave hA (by kernel_rfl) fun hA => ?_
            refine runS hA 3 [] xn on (by kernel_rfl) fun w10 hA => ?_
            refine leave hA (by kernel_rfl) fun hA => ?_
            refine runS hA 2 [] xn on (by kernel_rfl) fun w11 hA => ?_
            exact ret (v := .bool false) hA [] (by kernel_rfl) ⟨by unfold isFinF; rw [hgr]; simp [remF, posF_none hno], hA.below⟩
          ·
            refine runS hA 18 [.b false] xn (oc (dec_f (show ¬ (((q : Int) : Int) < (0 : Int)) by omega)) on) (by kernel_rfl) fun w9 hA => ?_
            refine revals hA (rc 41 (wr64 (x := (q : Int) + 1) (y := ((q + 1 : Nat) : Int)) (by omega) (by omega)) rn) (by kernel_rfl) fun hA => ?_
            have hle : (ci.eraseIdx q).length = ci.length - 1 := by rw [List.length_eraseIdx, if_pos hq]
            refine callW hA [] on (delete_any (hA.atK [⟨w.heap.size, .cells #[.int .i64 b.kind, .int .i64 b.runners, .slice A n c, .slice A2 m c2, .bool b.fav, .int .i64 b.car, .int .i64 b.dut, .int .i64 b.stp] 72 (0, 0)⟩] (by kernel_rfl)).resize hut hus hul hq) (by kernel_rfl) ?_
            rintro e w10 ⟨rfl, hz, cu2, hs2, ht2, hA2⟩
            refine ⟨.slice (some ⟨gb, 0, none⟩) (ci.length - 1) cap, _, _, rfl, hA2, hz, fun hA => ?_⟩
            refine revals hA (rc 42 (show .slice (some ⟨gb, 0, none⟩) (ci.length - 1) cap = .slice (some ⟨gb, 0, none⟩) ((ci.eraseIdx q).length) cap by rw [hle]) rn) (by kernel_rfl) fun hA => ?_
            refine runS hA 8 [] xn on (by kernel_rfl) fun w11 hA => ?_
            have hgr2 : grpF (racN b) fs = (remF (ci.eraseIdx q) (F.drop (j + 1))).bind fun c2 => grpF c2 (fs.drop (k + 1)) := by rw [hgr]; simp only [remF, posF_some hq he hfst]
            refine revals hA (rc 29 (wr64 (x := (j : Int) + 1) (y := ((j + 1 : Nat) : Int)) (by omega) (by omega)) rn) (by kernel_rfl) fun hA => ?_
            exact again hJ2 (F.length - (j + 1)) (⟨j + 1, ci.eraseIdx q, cu2⟩) [true] hA (by omega) (by kernel_rfl) ⟨by omega, rfl, hs2, by rw [hle]; exact ht2, by rw [hle]; omega, by rw [hle]; omega, hgr2⟩
end Go.Proofs.YtbahiemjaomdcaaGreat

/- pool: tillAt, CheckFinish. -/
namespace Go.Proofs.YtbahiemjaomdcaaGreat
open Go.RowKit Go.Shelf

/-- The error of a book and a finish. -/
def atF (b : Bk) (fs : List (List Int)) : Int := if bookF b = 0 then (if isFinF b fs = true then 0 else 22) else bookF b
def atV (b : Bk) (fs : List (List Int)) (A : Option Addr) (n c : Nat) (A2 : Option Addr) (m c2 : Nat) : Value := if atF b fs = 0 then tlV (tilF b) A n c A2 m c2 else tlV zeroT none 0 0 none 0 0
set_option maxRecDepth 20000 in
theorem tillAt_any (w : World) (B : Nat) (b : Bk) (A : Option Addr) (n c : Nat) (A2 : Option Addr) (m c2 : Nat) (A3 : Option Addr) (nf cf : Nat) (fs : List (List Int)) (h : BkAt w B b A n c A2 m c2) (hf : FinAt w B A3 nf fs) (hB : B ≤ w.heap.size) :
    Calls Tryz.prog 34 #[bkV b A n c A2 m c2, .slice A3 nf cf] w fun e w' => e = .returned (.tuple #[atV b fs A n c A2 m c2, .int .i64 (atF b fs)]) ∧ Below w.heap.size w w' := by
  refine enter 24 Tryz.func34 (by kernel_rfl) fun hA => ?_
  refine runS hA 10 (List.replicate 8 (.k 0)) xn on (by kernel_rfl) fun w1 hA => ?_
  refine callB hA [] on (tillOf_any w1 B b A n c A2 m c2 (h.below hA.below hB) (Nat.le_trans hB hA.size)) (by kernel_rfl) fun w2 hb2 hA => ?_
  by_cases h0 : bookF b = 0
  case neg =>
    refine revals hA (rc 10 (show .tuple #[(tilV b A n c A2 m c2), .int .i64 (bookF b)] = .tuple #[.agg #[.int .i64 0, .int .i64 0, .slice none 0 0, .slice none 0 0, .bool false, .int .i64 0, .int .i64 0, .int .i64 0, .int .i64 0, .int .i64 0, .int .i64 0, .int .i64 0, .int .i64 0, .int .i64 0, .int .i64 0], .int .i64 (bookF b)] by rw [show tilV b A n c A2 m c2 = tlV zeroT none 0 0 none 0 0 from if_neg h0]; rfl) rn) (by kernel_rfl) fun hA => ?_
    refine runS hA 26 (List.replicate 15 (.k 2) ++ [.b true] ++ List.replicate 15 (.k 1)) xn (oc (ne_t h0) on) (by kernel_rfl) fun w3 hA => ?_
    have ha : atF b fs = bookF b := if_neg h0
    exact ret (v := .tuple #[.agg #[.int .i64 0, .int .i64 0, .slice none 0 0, .slice none 0 0, .bool false, .int .i64 0, .int .i64 0, .int .i64 0, .int .i64 0, .int .i64 0, .int .i64 0, .int .i64 0, .int .i64 0, .int .i64 0, .int .i64 0], .int .i64 (bookF b)]) hA (List.replicate 15 (.k 1)) (by kernel_rfl) ⟨by rw [show atV b fs A n c A2 m c2 = tlV zeroT none 0 0 none 0 0 from if_neg (by rw [ha]; exact h0), ha]; rfl, hA.below⟩
  case pos =>
    have V := valid_of h0
    have hv1 := V.run
    have hv2 := V.racing
    have hv3 := racL_len b b.runners.toNat
    refine revals hA (rc 10 (show .tuple #[(tilV b A n c A2 m c2), .int .i64 (bookF b)] = .tuple #[.agg #[.int .i64 ((tilF b).b.kind), .int .i64 ((tilF b).b.runners), .slice A n c, .slice A2 m c2, .bool ((tilF b).b.fav), .int .i64 ((tilF b).b.car), .int .i64 ((tilF b).b.dut), .int .i64 ((tilF b).b.stp), .int .i64 ((tilF b).heir), .int .i64 ((tilF b).a.inn), .int .i64 ((tilF b).a.back), .int .i64 ((tilF b).a.duty), .int .i64 ((tilF b).a.paid), .int .i64 ((tilF b).a.kept), .int .i64 ((tilF b).a.over)], .int .i64 (bookF b)] by rw [show tilV b A n c A2 m c2 = tlV (tilF b) A n c A2 m c2 from if_pos h0]) rn) (by kernel_rfl) fun hA => ?_
    refine runS hA 24 (List.replicate 15 (.k 2) ++ [.b false] ++ List.replicate 8 (.k 2)) xn (oc (ne_f h0) on) (by kernel_rfl) fun w3 hA => ?_
    refine callB hA [] on (isFinish_any w3 B b A n c A2 m c2 A3 nf cf fs (h.scr.below hA.below hB) (hf.below hA.below hB) (Nat.le_trans hB hA.size) (by omega) (by omega) (show (racL b b.runners.toNat).length ≤ 1000 by omega)) (by kernel_rfl) fun w4 hb4 hA => ?_
    rcases Bool.eq_false_or_eq_true (isFinF b fs) with hfi | hfi
    ·
      refine revals hA (rc 20 (show .bool (isFinF b fs) = .bool true by rw [hfi]) rn) (by kernel_rfl) fun hA => ?_
      refine runS hA 14 (List.replicate 15 (.k 2) ++ List.replicate 15 (.k 1)) xn on (by kernel_rfl) fun w5 hA => ?_
      have ha : atF b fs = 0 := by unfold atF; rw [if_pos h0, hfi]; rfl
      exact ret (v := .tuple #[.agg #[.int .i64 ((tilF b).b.kind), .int .i64 ((tilF b).b.runners), .slice A n c, .slice A2 m c2, .bool ((tilF b).b.fav), .int .i64 ((tilF b).b.car), .int .i64 ((tilF b).b.dut), .int .i64 ((tilF b).b.stp), .int .i64 ((tilF b).heir), .int .i64 ((tilF b).a.inn), .int .i64 ((tilF b).a.back), .int .i64 ((tilF b).a.duty), .int .i64 ((tilF b).a.paid), .int .i64 ((tilF b).a.kept), .int .i64 ((tilF b).a.over)], .int .i64 0]) hA (List.replicate 15 (.k 1)) (by kernel_rfl) ⟨by rw [show atV b fs A n c A2 m c2 = tlV (tilF b) A n c A2 m c2 from if_pos ha, ha], hA.below⟩
    ·
      refine revals hA (rc 20 (show .bool (isFinF b fs) = .bool false by rw [hfi]) rn) (by kernel_rfl) fun hA => ?_
      refine runS hA 13 (List.replicate 15 (.k 1)) xn on (by kernel_rfl) fun w5 hA => ?_
      have ha : atF b fs = 22 := by unfold atF; rw [if_pos h0, hfi]; rfl
      exact ret (v := .tuple #[.agg #[.int .i64 0, .int .i64 0, .slice none 0 0, .slice none 0 0, .bool false, .int .i64 0, .int .i64 0, .int .i64 0, .int .i64 0, .int .i64 0, .int .i64 0, .int .i64 0, .int .i64 0, .int .i64 0, .int .i64 0], .int .i64 22]) hA (List.replicate 15 (.k 1)) (by kernel_rfl) ⟨by rw [show atV b fs A n c A2 m c2 = tlV zeroT none 0 0 none 0 0 from if_neg (by rw [ha]; decide), ha]; rfl, hA.below⟩
set_option maxRecDepth 20000 in
theorem CheckFinish_any (w : World) (B : Nat) (b : Bk) (A : Option Addr) (n c : Nat) (A2 : Option Addr) (m c2 : Nat) (A3 : Option Addr) (nf cf : Nat) (fs : List (List Int)) (h : BkAt w B b A n c A2 m c2) (hf : FinAt w B A3 nf fs) (hB : B ≤ w.heap.size) :
    Calls Tryz.prog 31 #[bkV b A n c A2 m c2, .slice A3 nf cf] w fun e w' => e = .returned (.int .i64 (atF b fs)) ∧ Below w.heap.size w w' := by
  refine enter 14 Tryz.func31 (by kernel_rfl) fun hA => ?_
  refine runS hA 10 (List.replicate 8 (.k 0)) xn on (by kernel_rfl) fun w1 hA => ?_
  by_cases h0 : atF b fs = 0
  case pos =>
    refine callB hA [] on (tillAt_any w1 B b A n c A2 m c2 A3 nf cf fs (h.below hA.below hB) (hf.below hA.below hB) (Nat.le_trans hB hA.size)) (by kernel_rfl) fun w2 hb2 hA => ?_
    refine revals hA (rc 10 (show .tuple #[(atV b fs A n c A2 m c2), .int .i64 (atF b fs)] = .tuple #[.agg #[.int .i64 ((tilF b).b.kind), .int .i64 ((tilF b).b.runners), .slice A n c, .slice A2 m c2, .bool ((tilF b).b.fav), .int .i64 ((tilF b).b.car), .int .i64 ((tilF b).b.dut), .int .i64 ((tilF b).b.stp), .int .i64 ((tilF b).heir), .int .i64 ((tilF b).a.inn), .int .i64 ((tilF b).a.back), .int .i64 ((tilF b).a.duty), .int .i64 ((tilF b).a.paid), .int .i64 ((tilF b).a.kept), .int .i64 ((tilF b).a.over)], .int .i64 (atF b fs)] by rw [show atV b fs A n c A2 m c2 = tlV (tilF b) A n c A2 m c2 from if_pos h0]) rn) (by kernel_rfl) fun hA => ?_
    refine runS hA 15 (List.replicate 15 (.k 1)) xn on (by kernel_rfl) fun w3 hA => ?_
    exact ret (v := .int .i64 (atF b fs)) hA [] (by kernel_rfl) ⟨rfl, hA.below⟩
  case neg =>
    refine callB hA [] on (tillAt_any w1 B b A n c A2 m c2 A3 nf cf fs (h.below hA.below hB) (hf.below hA.below hB) (Nat.le_trans hB hA.size)) (by kernel_rfl) fun w2 hb2 hA => ?_
    refine revals hA (rc 10 (show .tuple #[(atV b fs A n c A2 m c2), .int .i64 (atF b fs)] = .tuple #[.agg #[.int .i64 0, .int .i64 0, .slice none 0 0, .slice none 0 0, .bool false, .int .i64 0, .int .i64 0, .int .i64 0, .int .i64 0, .int .i64 0, .int .i64 0, .int .i64 0, .int .i64 0, .int .i64 0, .int .i64 0], .int .i64 (atF b fs)] by rw [show atV b fs A n c A2 m c2 = tlV zeroT none 0 0 none 0 0 from if_neg h0]; rfl) rn) (by kernel_rfl) fun hA => ?_
    refine runS hA 15 (List.replicate 15 (.k 1)) xn on (by kernel_rfl) fun w3 hA => ?_
    exact ret (v := .int .i64 (atF b fs)) hA [] (by kernel_rfl) ⟨rfl, hA.below⟩
end Go.Proofs.YtbahiemjaomdcaaGreat

/- pool: what holds of the units of the winners. -/
namespace Go.Proofs.YtbahiemjaomdcaaGreat
open Go.RowKit Go.Shelf

abbrev PM := List ((Int × Int) × Int)
def keysL (m : PM) : List (Int × Int) := m.map Prod.fst
theorem mset_keys (p : Int × Int) (v : Int) : ∀ m : PM, keysL (mset p v m) = if p ∈ keysL m then keysL m else keysL m ++ [p]
  | [] => by simp [keysL, mset]
  | x :: m => by
    have ih := mset_keys p v m
    show keysL (if p = x.1 then (x.1, v) :: m else x :: mset p v m) = _
    by_cases h : p = x.1
    · rw [if_pos h, if_pos (by rw [h]; exact List.mem_cons_self)]
      rfl
    · rw [if_neg h]
      show x.1 :: keysL (mset p v m) = _
      rw [ih]
      by_cases h2 : p ∈ keysL m
      · rw [if_pos h2, if_pos (show p ∈ keysL (x :: m) from List.mem_cons_of_mem _ h2)]
        rfl
      · rw [if_neg h2, if_neg (show p ∉ keysL (x :: m) from fun h3 => by rcases List.mem_cons.1 h3 with e | e; exact h e; exact h2 e)]
        rfl
theorem mdel_keys (p : Int × Int) : ∀ m : PM, keysL (mdel p m) = (keysL m).erase p
  | [] => rfl
  | x :: m => by
    have ih := mdel_keys p m
    show keysL (if p = x.1 then m else x :: mdel p m) = (x.1 :: keysL m).erase p
    by_cases h : p = x.1
    · rw [if_pos h, h, List.erase_cons_head]
    · rw [if_neg h, List.erase_cons_tail (by simpa using fun e : x.1 = p => h e.symm)]
      show x.1 :: keysL (mdel p m) = _
      rw [ih]
theorem mfind_cons (p : Int × Int) (x : (Int × Int) × Int) (m : PM) : mfind p (x :: m) = if p = x.1 then some (0, x.2) else (mfind p m).map fun r => (r.1 + 1, r.2) := rfl
theorem mfind_none {p : Int × Int} : ∀ {m : PM}, p ∉ keysL m → mfind p m = none
  | [], _ => rfl
  | x :: m, h => by
    rw [mfind_cons, if_neg (show ¬ p = x.1 from fun e => h (by rw [e]; exact List.mem_cons_self)), mfind_none (m := m) (fun h2 => h (List.mem_cons_of_mem _ h2))]
    rfl
theorem mfind_mem {p : Int × Int} {r : Nat × Int} : ∀ {m : PM}, mfind p m = some r → p ∈ keysL m := fun {m} h => by
  by_cases hm : p ∈ keysL m
  · exact hm
  · rw [mfind_none hm] at h; cases h
theorem mfind_get {p : Int × Int} {r : Nat × Int} {m : PM} (h : mfind p m = some r) : mget 0 m p = r.2 := by unfold mget; rw [h]
theorem keys_of : ∀ {m : PM}, (keysL m).Nodup → Keys m
  | [], _ => fun i e h => by simp at h
  | x :: m, hn => fun i e h => by
    obtain ⟨h1, h2⟩ := List.nodup_cons.1 (show (x.1 :: keysL m).Nodup from hn)
    cases i with
    | zero =>
      simp only [List.getElem?_cons_zero, Option.some.injEq] at h
      rw [mfind_cons, if_pos (by rw [h]), h]
    | succ i =>
      simp only [List.getElem?_cons_succ] at h
      have := keys_of h2 i e h
      rw [mfind_cons, if_neg (show ¬ e.1 = x.1 from fun e2 => h1 (by rw [← e2]; exact List.mem_map.2 ⟨e, List.mem_of_getElem? h, rfl⟩)), this]
      rfl
theorem mdel_get {p q : Int × Int} : ∀ {m : PM}, (keysL m).Nodup → q ≠ p → mget 0 (mdel p m) q = mget 0 m q
  | [], _, _ => rfl
  | x :: m, hn, hq => by
    obtain ⟨h1, h2⟩ := List.nodup_cons.1 (show (x.1 :: keysL m).Nodup from hn)
    show mget 0 (if p = x.1 then m else x :: mdel p m) q = _
    by_cases h : p = x.1
    · rw [if_pos h, mget_cons, if_neg (by rw [← h]; exact hq)]
    · rw [if_neg h, mget_cons, mget_cons, mdel_get h2 hq]
theorem zerF_keys (ws : List (Int × Int)) : ∀ m : PM, (keysL m).Nodup → (keysL (ws.foldl (fun m s => mset s 0 m) m)).Nodup ∧ (∀ s ∈ keysL (ws.foldl (fun m s => mset s 0 m) m), s ∈ keysL m ∨ s ∈ ws) ∧ (keysL (ws.foldl (fun m s => mset s 0 m) m)).length ≤ (keysL m).length + ws.length := by
  induction ws with
  | nil => intro m h; exact ⟨h, fun s hs => .inl hs, by simp⟩
  | cons x ws ih =>
    intro m h
    have hk := mset_keys x 0 m
    have hn : (keysL (mset x 0 m)).Nodup := by
      rw [hk]
      split
      · exact h
      · rename_i hx
        rw [List.nodup_append]
        exact ⟨h, by simp, fun a ha b hb e => hx (by rw [← List.mem_singleton.1 hb, ← e]; exact ha)⟩
    obtain ⟨h1, h2, h3⟩ := ih (mset x 0 m) hn
    refine ⟨h1, fun s hs => ?_, ?_⟩
    · rcases h2 s hs with h | h
      · rw [hk] at h
        split at h
        · exact .inl h
        · rcases List.mem_append.1 h with h | h
          · exact .inl h
          · exact .inr (by rw [List.mem_singleton.1 h]; exact List.mem_cons_self)
      · exact .inr (List.mem_cons_of_mem _ h)
    · refine Nat.le_trans h3 ?_
      rw [hk, List.length_cons]
      split
      · omega
      · rw [List.length_append, List.length_singleton]; omega
theorem unitF_keys (t : Till) (bs : List Bet) : ∀ m : PM, keysL (unitF t bs m) = keysL m := by
  induction bs with
  | nil => intro m; rfl
  | cons x bs ih =>
    intro m
    show keysL (unitF t bs (stepU t m x)) = _
    rw [ih]
    unfold stepU
    split
    · rename_i h
      rw [mset_keys, if_pos]
      cases hf : mfind (s1T t x, x.second) m with
      | none => rw [hf] at h; cases h.2
      | some r => exact mfind_mem hf
    · rfl
theorem delF_keys (m : PM) (hn : (keysL m).Nodup) (pre : List (Int × Int)) : (keysL (delF pre m)).Nodup ∧ (∀ s ∈ keysL (delF pre m), s ∈ keysL m) ∧ (keysL (delF pre m)).length ≤ (keysL m).length ∧ (∀ s ∈ keysL (delF pre m), mget 0 (delF pre m) s = mget 0 m s) ∧ ∀ s ∈ pre, s ∈ keysL (delF pre m) → mget 0 (delF pre m) s ≠ 0 := by
  have main : ∀ (l : List (Int × Int)) (pre : List (Int × Int)), ((keysL (delF pre m)).Nodup ∧ (∀ s ∈ keysL (delF pre m), s ∈ keysL m) ∧ (keysL (delF pre m)).length ≤ (keysL m).length ∧ (∀ s ∈ keysL (delF pre m), mget 0 (delF pre m) s = mget 0 m s) ∧ ∀ s ∈ pre, s ∈ keysL (delF pre m) → mget 0 (delF pre m) s ≠ 0) →
      ((keysL (delF (pre ++ l) m)).Nodup ∧ (∀ s ∈ keysL (delF (pre ++ l) m), s ∈ keysL m) ∧ (keysL (delF (pre ++ l) m)).length ≤ (keysL m).length ∧ (∀ s ∈ keysL (delF (pre ++ l) m), mget 0 (delF (pre ++ l) m) s = mget 0 m s) ∧ ∀ s ∈ pre ++ l, s ∈ keysL (delF (pre ++ l) m) → mget 0 (delF (pre ++ l) m) s ≠ 0) := by
    intro l
    induction l with
    | nil => intro pre h; rw [List.append_nil]; exact h
    | cons x l ih =>
      intro pre ⟨h1, h2, h3, h4, h5⟩
      rw [show pre ++ x :: l = (pre ++ [x]) ++ l by simp]
      refine ih (pre ++ [x]) ?_
      rw [delF_step]
      by_cases h0 : mget 0 (delF pre m) x = 0
      · rw [if_pos h0]
        have hk := mdel_keys x (delF pre m)
        have hsub : ∀ s ∈ keysL (mdel x (delF pre m)), s ∈ keysL (delF pre m) ∧ s ≠ x := fun s hs => by
          rw [hk] at hs
          exact ⟨List.mem_of_mem_erase hs, fun e => by rw [e] at hs; exact List.Nodup.not_mem_erase h1 hs⟩
        refine ⟨by rw [hk]; exact h1.erase x, fun s hs => h2 s (hsub s hs).1, ?_, fun s hs => ?_, fun s hs hs2 => ?_⟩
        · rw [hk]
          exact Nat.le_trans (List.length_erase_le) h3
        · rw [mdel_get h1 (hsub s hs).2]
          exact h4 s (hsub s hs).1
        · rw [mdel_get h1 (hsub s hs2).2]
          rcases List.mem_append.1 hs with hs | hs
          · exact h5 s hs (hsub s hs2).1
          · exact absurd (List.mem_singleton.1 hs) (hsub s hs2).2
      · rw [if_neg h0]
        refine ⟨h1, h2, h3, h4, fun s hs hs2 => ?_⟩
        rcases List.mem_append.1 hs with hs | hs
        · exact h5 s hs hs2
        · rw [List.mem_singleton.1 hs]; exact h0
  have := main pre [] ⟨hn, fun s h => h, Nat.le_refl _, fun _ _ => rfl, fun s h => nomatch h⟩
  simpa using this
/-- The units of the winners that are backed are positive. -/
theorem payF_ok {t : Till} {fs : List (List Int)} (hu : ∀ x ∈ t.b.bets, 0 ≤ x.units ∧ x.units ≤ 1000) (hn : t.b.bets.length ≤ 100) (hw : (winF t.b fs).length ≤ 1000) : PayOk (payF t fs) ∧ Keys (payF t fs) := by
  obtain ⟨z1, z2, z3⟩ := zerF_keys (winF t.b fs) [] List.nodup_nil
  have z1 : (keysL (zerF (winF t.b fs))).Nodup := z1
  have hk := unitF_keys t t.b.bets (zerF (winF t.b fs))
  obtain ⟨d1, d2, d3, d4, d5⟩ := delF_keys (unitF t t.b.bets (zerF (winF t.b fs))) (by rw [hk]; exact z1) (winF t.b fs)
  have hb := unitF_bound (t := t) (ws := winF t.b fs) (bs := t.b.bets) hu (k := t.b.bets.length) (Nat.le_refl _)
  rw [List.take_length] at hb
  refine ⟨⟨fun s i u hf => ?_, ?_⟩, keys_of d1⟩
  · have hm := mfind_mem hf
    have hg : mget 0 (payF t fs) s = u := mfind_get hf
    have h1 := d4 s hm
    have h2 : s ∈ winF t.b fs := by
      have := d2 s hm
      rw [hk] at this
      rcases z2 s this with h | h
      · cases h
      · exact h
    have h3 := d5 s h2 hm
    have h4 := hb s
    rw [payF_eq] at hg
    rw [hg] at h1 h3
    omega
  · have : (keysL (payF t fs)).length = (payF t fs).length := by simp [keysL]
    have z3 : (keysL (zerF (winF t.b fs))).length ≤ (keysL ([] : PM)).length + (winF t.b fs).length := z3
    have hz : (keysL ([] : PM)).length = 0 := rfl
    rw [← this, payF_eq]
    rw [hk] at d3
    omega
end Go.Proofs.YtbahiemjaomdcaaGreat

/- pool: what holds of finishes and of the till of a valid book. -/
namespace Go.Proofs.YtbahiemjaomdcaaGreat
open Go.RowKit Go.Shelf

theorem remF_len : ∀ (F co c2 : List Int), remF co F = some c2 → c2.length + F.length = co.length
  | [], co, c2, h => by cases h; rfl
  | r :: F, co, c2, h => by
    unfold remF at h
    cases hp : posF r co with
    | none => rw [hp] at h; cases h
    | some q =>
      rw [hp] at h
      have ih := remF_len F _ c2 h
      have hq : q < co.length := by
        unfold posF at hp
        rw [List.findIdx?_eq_some_iff_getElem] at hp
        exact hp.1
      rw [List.length_eraseIdx, if_pos hq] at ih
      simp only [List.length_cons]
      omega
theorem grpF_cons {co F : List Int} {fs : List (List Int)} (h : grpF co (F :: fs) = some []) : F.length ≠ 0 ∧ ∃ c2, c2.length + F.length = co.length ∧ grpF c2 fs = some [] := by
  unfold grpF at h
  split at h
  · cases h
  · rename_i h1
    cases hr : remF co F with
    | none => rw [hr] at h; cases h
    | some c2 =>
      rw [hr] at h
      exact ⟨fun e => h1 (.inl e), c2, remF_len F co c2 hr, h⟩
theorem flat_len {α β : Type} (f : α → List β) (K : Nat) : ∀ xs : List α, (∀ x ∈ xs, (f x).length ≤ K) → (xs.flatMap f).length ≤ xs.length * K
  | [], _ => by simp
  | x :: xs, h => by
    have ih := flat_len f K xs fun y hy => h y (List.mem_cons_of_mem _ hy)
    have h1 := h x List.mem_cons_self
    rw [List.flatMap_cons, List.length_append, List.length_cons, Nat.add_mul]
    omega
theorem prsF_len (p : Int × Int → Bool) (xs : List Int) : (prsF p xs).length ≤ xs.length * xs.length :=
  flat_len _ _ xs fun x _ => Nat.le_trans (List.length_filter_le _ _) (by simp)
structure FinOk (b : Bk) (fs : List (List Int)) : Prop where
  pos : 0 < fs.length
  one : (fs[0]?.getD []).length = 1 → 1 < fs.length ∧ 0 < (fs[1]?.getD []).length
  l0 : (fs[0]?.getD []).length ≤ 8
  l1 : (fs[1]?.getD []).length ≤ 8
  ws : (winF b fs).length ≤ 1000
theorem fin_ok {b : Bk} {fs : List (List Int)} (V : ValidB b) (hf : isFinF b fs = true) : FinOk b fs := by
  have hr := V.racing
  have hv := V.run
  have hl : (racN b).length ≤ 8 := Nat.le_trans (racL_len b b.runners.toNat) (by omega)
  have hg : grpF (racN b) fs = some [] := of_decide_eq_true hf
  cases fs with
  | nil =>
    simp only [grpF, Option.some.injEq] at hg
    rw [hg] at hr
    simp at hr
  | cons F fs =>
    obtain ⟨h1, c2, h2, h3⟩ := grpF_cons hg
    have h4 : ((F :: fs)[1]?.getD []).length ≤ 8 ∧ (F.length = 1 → 1 < (F :: fs).length ∧ 0 < ((F :: fs)[1]?.getD []).length) := by
      cases fs with
      | nil =>
        refine ⟨by simp, fun h => ?_⟩
        simp only [grpF, Option.some.injEq] at h3
        rw [h3] at h2
        simp at h2
        omega
      | cons G fs =>
        obtain ⟨k1, c3, k2, k3⟩ := grpF_cons h3
        refine ⟨by simp; omega, fun h => ⟨by simp, by simp; exact Nat.pos_of_ne_zero (by simpa using k1)⟩⟩
    have h5 : (((F :: fs)[0]?.getD [] : List Int)).length ≤ 8 := by simp; omega
    have hp : (plaF (F :: fs)).length ≤ 16 := by
      unfold plaF srtF
      split
      · rw [List.length_mergeSort, List.length_append]; omega
      · omega
    refine ⟨by simp, fun h => h4.2 (by simpa using h), h5, h4.1, ?_⟩
    have hq : (plaF (F :: fs)).length * (plaF (F :: fs)).length ≤ 16 * 16 := Nat.mul_le_mul hp hp
    unfold winF
    split
    · rw [sinF_len]; omega
    · split
      · rw [sinF_len]; omega
      · split
        · exact Nat.le_trans (prsF_len _ _) (by omega)
        · exact Nat.le_trans (prsF_len _ _) (by omega)
theorem acc_ok {b : Bk} (V : ValidB b) : AccOk (tilF b).a ∧ (tilF b).a.paid = 0 := by
  have hu : ∀ x ∈ b.bets, 0 ≤ x.units ∧ x.units ≤ 1000 := fun x hx => by have := (V.first hx).2; omega
  have h1 := sumF_bound allB b.bets hu
  have h2 := sumF_bound (notOn ⟨b, favF b, acc0⟩) b.bets hu
  have hc := V.car
  have hd := V.dut
  have hl := V.len
  refine ⟨?_, rfl⟩
  obtain ⟨U, hU⟩ : ∃ U, U = sumF allB b.bets := ⟨_, rfl⟩
  obtain ⟨K, hK⟩ : ∃ K, K = sumF (notOn ⟨b, favF b, acc0⟩) b.bets := ⟨_, rfl⟩
  rw [← hU] at h1
  rw [← hK] at h2
  show AccOk (incF' (sumF allB b.bets) (sumF (notOn ⟨b, favF b, acc0⟩) b.bets) b.car b.dut)
  rw [← hU, ← hK]
  have h3 : -10000000 ≤ (U - K) * 100 ∧ (U - K) * 100 ≤ 10000000 := by omega
  have h4 := Int.mul_le_mul_of_nonneg_right h3.1 hd.1
  have h5 := Int.mul_le_mul_of_nonneg_right h3.2 hd.1
  have h6 := tdiv_bound (x := (U - K) * 100 * b.dut) (y := 1000) (K := 10000000 * 500) (by omega) (by omega) (by omega)
  unfold AccOk incF'
  simp only
  omega
theorem s1_ok {b : Bk} (V : ValidB b) : ∀ x ∈ b.bets, okT (tilF b) x = true → 0 ≤ s1T (tilF b) x ∧ s1T (tilF b) x < 8 := fun x hx _ => by
  have h1 := (V.first hx).1
  have h2 := V.run
  have h3 := (racL_mem b (k := b.runners.toNat)).1 (fgF_mem (tallyF (okF b) (fun x => x.first) b.bets) (xs := racN b) (by have := V.racing; omega))
  have h4 : (tilF b).heir = fgF (tallyF (okF b) (fun x => x.first) b.bets) (racN b) := rfl
  unfold s1T
  split
  · rw [h4]; omega
  · omega
end Go.Proofs.YtbahiemjaomdcaaGreat

/- pool: Account, Pay. -/
namespace Go.Proofs.YtbahiemjaomdcaaGreat
open Go.RowKit Go.Shelf

theorem at_ok {b : Bk} {fs : List (List Int)} (h : atF b fs = 0) : ValidB b ∧ FinOk b fs := by
  unfold atF at h
  split at h
  · rename_i h0
    split at h
    · rename_i h1
      exact ⟨valid_of h0, fin_ok (valid_of h0) h1⟩
    · cases h
  · rename_i h0
    exact absurd h h0
theorem units_ok {b : Bk} (V : ValidB b) : ∀ x ∈ b.bets, 0 ≤ x.units ∧ x.units ≤ 1000 := fun x hx => by have := (V.first hx).2; omega
def AccountF (b : Bk) (fs : List (List Int)) : Acc := if atF b fs = 0 then accF (tilF b) (payF (tilF b) fs) else acc0
/-- What is paid for a bet. -/
def payE (b : Bk) (fs : List (List Int)) (i : Int) : Int := if atF b fs = 0 then (if 0 ≤ i ∧ i ≤ (b.bets.length : Int) - 1 then 0 else 5) else atF b fs
def payA (b : Bk) (fs : List (List Int)) (i : Int) : Int := if payE b fs i = 0 then payB (tilF b) (payF (tilF b) fs) (b.bets[i.toNat]?.getD noBet) else 0
set_option maxRecDepth 20000 in
theorem Account_any (w : World) (B : Nat) (b : Bk) (A : Option Addr) (n c : Nat) (A2 : Option Addr) (m c2 : Nat) (A3 : Option Addr) (nf cf : Nat) (fs : List (List Int)) (h : BkAt w B b A n c A2 m c2) (hf : FinAt w B A3 nf fs) (hB : B ≤ w.heap.size) :
    Calls Tryz.prog 11 #[bkV b A n c A2 m c2, .slice A3 nf cf] w fun e w' => e = .returned (.tuple #[.agg (accC (AccountF b fs)), .int .i64 (atF b fs)]) ∧ Below w.heap.size w w' := by
  refine enter 22 Tryz.func11 (by kernel_rfl) fun hA => ?_
  refine runS hA 11 (List.replicate 8 (.k 0)) xn on (by kernel_rfl) fun w1 hA => ?_
  by_cases h0 : atF b fs = 0
  case pos =>
    refine callB hA [] on (tillAt_any w1 B b A n c A2 m c2 A3 nf cf fs (h.below hA.below hB) (hf.below hA.below hB) (Nat.le_trans hB hA.size)) (by kernel_rfl) fun w2 hb2 hA => ?_
    refine revals hA (rc 11 (show .tuple #[(atV b fs A n c A2 m c2), .int .i64 (atF b fs)] = .tuple #[.agg #[.int .i64 ((tilF b).b.kind), .int .i64 ((tilF b).b.runners), .slice A n c, .slice A2 m c2, .bool ((tilF b).b.fav), .int .i64 ((tilF b).b.car), .int .i64 ((tilF b).b.dut), .int .i64 ((tilF b).b.stp), .int .i64 ((tilF b).heir), .int .i64 ((tilF b).a.inn), .int .i64 ((tilF b).a.back), .int .i64 ((tilF b).a.duty), .int .i64 ((tilF b).a.paid), .int .i64 ((tilF b).a.kept), .int .i64 ((tilF b).a.over)], .int .i64 (atF b fs)] by rw [show atV b fs A n c A2 m c2 = tlV (tilF b) A n c A2 m c2 from if_pos h0]) rn) (by kernel_rfl) fun hA => ?_
    obtain ⟨V, fo⟩ := at_ok h0
    have hnl := h.bets.1
    have hv2 := V.len
    have hpo := payF_ok (t := tilF b) (fs := fs) (units_ok V) V.len fo.ws
    have hac := acc_ok V
    refine runS hA 22 (List.replicate 15 (.k 2) ++ [.b false] ++ List.replicate 15 (.k 2)) xn (oc (ne_f h0) on) (by kernel_rfl) fun w3 hA => ?_
    refine call hA [] on (payout_any w3 B (tilF b) A n c A2 m c2 A3 nf cf fs (h.below hA.below hB) (hf.below hA.below hB) (Nat.le_trans hB hA.size) (hf.1 ▸ fo.pos) (by rw [← hf.1]; exact fo.one) (by have := fo.l0; omega) (by have := fo.l1; omega) (units_ok V) (by omega)) (by kernel_rfl) (by rintro e v ⟨mb, ob, rfl, hbp, hmb, hmo, hml⟩; exact hbp) ?_
    rintro e w4 ⟨mb, ob, rfl, hbp, hmb, hmo, hml⟩
    refine ⟨_, rfl, fun hA => ?_⟩
    have hlt := (Array.getElem?_eq_some_iff.1 hmb).1
    refine callB hA [] on (account_any w4 (tilF b) A n c A2 m c2 mb ob _ hmb hmo hlt hpo.1 hac.1 V.stp hpo.2 (by rw [hac.2]; omega)) (by kernel_rfl) fun w5 hb5 hA => ?_
    refine runS hA 5 (List.replicate 6 (.k 1)) xn on (by kernel_rfl) fun w6 hA => ?_
    exact ret (v := .tuple #[.agg #[.int .i64 ((accF (tilF b) (payF (tilF b) fs)).inn), .int .i64 ((accF (tilF b) (payF (tilF b) fs)).back), .int .i64 ((accF (tilF b) (payF (tilF b) fs)).duty), .int .i64 ((accF (tilF b) (payF (tilF b) fs)).paid), .int .i64 ((accF (tilF b) (payF (tilF b) fs)).kept), .int .i64 ((accF (tilF b) (payF (tilF b) fs)).over)], .int .i64 0]) hA (List.replicate 6 (.k 1)) (by kernel_rfl) ⟨by unfold AccountF; rw [if_pos h0, h0], hA.below⟩
  case neg =>
    refine callB hA [] on (tillAt_any w1 B b A n c A2 m c2 A3 nf cf fs (h.below hA.below hB) (hf.below hA.below hB) (Nat.le_trans hB hA.size)) (by kernel_rfl) fun w2 hb2 hA => ?_
    refine revals hA (rc 11 (show .tuple #[(atV b fs A n c A2 m c2), .int .i64 (atF b fs)] = .tuple #[.agg #[.int .i64 0, .int .i64 0, .slice none 0 0, .slice none 0 0, .bool false, .int .i64 0, .int .i64 0, .int .i64 0, .int .i64 0, .int .i64 0, .int .i64 0, .int .i64 0, .int .i64 0, .int .i64 0, .int .i64 0], .int .i64 (atF b fs)] by rw [show atV b fs A n c A2 m c2 = tlV zeroT none 0 0 none 0 0 from if_neg h0]; rfl) rn) (by kernel_rfl) fun hA => ?_
    refine runS hA 26 (List.replicate 15 (.k 2) ++ [.b true] ++ List.replicate 6 (.k 1)) xn (oc (ne_t h0) on) (by kernel_rfl) fun w3 hA => ?_
    exact ret (v := .tuple #[.agg #[.int .i64 0, .int .i64 0, .int .i64 0, .int .i64 0, .int .i64 0, .int .i64 0], .int .i64 (atF b fs)]) hA (List.replicate 6 (.k 1)) (by kernel_rfl) ⟨by unfold AccountF; rw [if_neg h0]; rfl, hA.below⟩
set_option maxRecDepth 20000 in
theorem Pay_any (w : World) (B : Nat) (b : Bk) (A : Option Addr) (n c : Nat) (A2 : Option Addr) (m c2 : Nat) (A3 : Option Addr) (nf cf : Nat) (fs : List (List Int)) (h : BkAt w B b A n c A2 m c2) (hf : FinAt w B A3 nf fs) (hB : B ≤ w.heap.size) (i : Int) :
    Calls Tryz.prog 13 #[bkV b A n c A2 m c2, .slice A3 nf cf, .int .i64 i] w fun e w' => e = .returned (.tuple #[.int .i64 (payA b fs i), .int .i64 (payE b fs i)]) ∧ Below w.heap.size w w' := by
  refine enter 36 Tryz.func13 (by kernel_rfl) fun hA => ?_
  refine runS hA 11 (List.replicate 8 (.k 0)) xn on (by kernel_rfl) fun w1 hA => ?_
  by_cases h0 : atF b fs = 0
  case pos =>
    refine callB hA [] on (tillAt_any w1 B b A n c A2 m c2 A3 nf cf fs (h.below hA.below hB) (hf.below hA.below hB) (Nat.le_trans hB hA.size)) (by kernel_rfl) fun w2 hb2 hA => ?_
    refine revals hA (rc 13 (show .tuple #[(atV b fs A n c A2 m c2), .int .i64 (atF b fs)] = .tuple #[.agg #[.int .i64 ((tilF b).b.kind), .int .i64 ((tilF b).b.runners), .slice A n c, .slice A2 m c2, .bool ((tilF b).b.fav), .int .i64 ((tilF b).b.car), .int .i64 ((tilF b).b.dut), .int .i64 ((tilF b).b.stp), .int .i64 ((tilF b).heir), .int .i64 ((tilF b).a.inn), .int .i64 ((tilF b).a.back), .int .i64 ((tilF b).a.duty), .int .i64 ((tilF b).a.paid), .int .i64 ((tilF b).a.kept), .int .i64 ((tilF b).a.over)], .int .i64 (atF b fs)] by rw [show atV b fs A n c A2 m c2 = tlV (tilF b) A n c A2 m c2 from if_pos h0]) rn) (by kernel_rfl) fun hA => ?_
    obtain ⟨V, fo⟩ := at_ok h0
    have hnl := h.bets.1
    have hv2 := V.len
    have hpo := payF_ok (t := tilF b) (fs := fs) (units_ok V) V.len fo.ws
    have hac := acc_ok V
    refine runS hA 27 (List.replicate 15 (.k 1) ++ [.b false, .k 0]) xn (oc (ne_f h0) on) (by kernel_rfl) fun w3 hA => ?_
    refine revals hA (rc 22 (wr64 (x := (n : Int) - 1) (y := (n : Int) - 1) (by omega) rfl) rn) (by kernel_rfl) fun hA => ?_
    have hcl := cell_of_obj (a := ⟨w2.heap.size + 1, 0, none⟩) (hA.at_.ok ⟨w2.heap.size + 1, .cells #[.int .i64 i] 3 (0, 0)⟩ (List.mem_of_getElem? (i := 2) (by kernel_rfl))) rfl rfl
    have hlt0 : w2.heap.size + 1 < w3.heap.size := hA.at_.lt (kb := ⟨w2.heap.size + 1, .cells #[.int .i64 i] 3 (0, 0)⟩) (List.mem_of_getElem? (i := 2) (by kernel_rfl))
    refine callB hA [] on (within_any 0 ((n : Int) - 1) w3 w3.heap.size (some ⟨w2.heap.size + 1, 0, none⟩) 1 1 [i] (one_int w3 w3.heap.size _ i hlt0 hcl) (Nat.le_refl _)) (by kernel_rfl) fun w4 hb4 hA => ?_
    have hwi := within_one 0 ((n : Int) - 1) i
    by_cases hi : 0 ≤ i ∧ i ≤ (n : Int) - 1
    case pos =>
      have hwb : withinF 0 ((n : Int) - 1) [i] = true := by rw [hwi, decide_eq_true hi.1, decide_eq_true hi.2]; rfl
      refine revals hA (rc 25 (show .bool (withinF 0 ((n : Int) - 1) [i]) = .bool true by rw [hwb]) rn) (by kernel_rfl) fun hA => ?_
      have he : payE b fs i = 0 := by unfold payE; rw [if_pos h0, if_pos (by rw [hnl]; exact hi)]
      obtain ⟨j, rfl⟩ : ∃ j : Nat, i = (j : Int) := ⟨i.toNat, by omega⟩
      obtain ⟨b1, off, rfl, hb1, k0, k1, k2⟩ := h.bets.at (j := j) (by omega)
      have hbl : b1 < w.heap.size := Nat.lt_of_lt_of_le hb1 hB
      refine runS hA 7 [] xn on (by kernel_rfl) fun w5 hA => ?_
      refine draw hA [true, true, true] [0, 1, 2, 3, 4, 5, 6, 7, 8, 9, 10] (by kernel_rfl) (by kernel_rfl) fun hA => ?_
      refine runS hA 7 ([.t 0] ++ List.replicate 15 (.k 1) ++ [.t 1, .t 3, .t 4, .k 0, .t 5, .t 6, .i, .t 7, .x (.int .i64 ((b.bets[j]?.getD noBet).first)), .x (.int .i64 ((b.bets[j]?.getD noBet).second)), .x (.int .i64 ((b.bets[j]?.getD noBet).units))]) (xc (a := ⟨b1, off + j * 3, none⟩) ⟨hbl, k0⟩ (xc (a := ⟨b1, off + j * 3 + 1, none⟩) ⟨hbl, k1⟩ (xc (a := ⟨b1, off + j * 3 + 2, none⟩) ⟨hbl, k2⟩ xn))) (oc (show (0 : Int) ≤ ((j : Int) : Int) ∧ ((j : Int) : Int) < (n : Int) by omega) on) (by kernel_rfl) fun w6 hA => ?_
      refine call hA [] on (payout_any w6 B (tilF b) (some ⟨b1, off, none⟩) n c A2 m c2 A3 nf cf fs (h.below hA.below hB) (hf.below hA.below hB) (Nat.le_trans hB hA.size) (hf.1 ▸ fo.pos) (by rw [← hf.1]; exact fo.one) (by have := fo.l0; omega) (by have := fo.l1; omega) (units_ok V) (by omega)) (by kernel_rfl) (by rintro e v ⟨mb, ob, rfl, hbp, hmb, hmo, hml⟩; exact hbp) ?_
      rintro e w7 ⟨mb, ob, rfl, hbp, hmb, hmo, hml⟩
      refine ⟨_, rfl, fun hA => ?_⟩
      have hlt := (Array.getElem?_eq_some_iff.1 hmb).1
      have hmem : (b.bets[j]?.getD noBet) ∈ b.bets := by rw [List.getElem?_eq_getElem (by omega)]; exact List.getElem_mem _
      refine callB hA [] on (pay_any w7 B (tilF b) (some ⟨b1, off, none⟩) n c A2 m c2 mb ob _ hmb hmo hlt hpo.1 hac.1 V.stp (b.bets[j]?.getD noBet) (h.scr.below hA.below hB) (Nat.le_trans hB hA.size) (units_ok V _ hmem)) (by kernel_rfl) fun w8 hb8 hA => ?_
      refine runS hA 5 [.t 9, .t 10, .b true] xn on (by kernel_rfl) fun w9 hA => ?_
      exact ret (v := .tuple #[.int .i64 (payB (tilF b) (payF (tilF b) fs) (b.bets[j]?.getD noBet)), .int .i64 0]) hA [] (by kernel_rfl) ⟨by unfold payA; rw [he, if_pos rfl]; rfl, hA.below⟩
    case neg =>
      have hwb : withinF 0 ((n : Int) - 1) [i] = false := by
        rw [hwi]
        by_cases hq : 0 ≤ i
        · rw [decide_eq_false (p := i ≤ (n : Int) - 1) (fun h => hi ⟨hq, h⟩), Bool.and_false]
        · rw [decide_eq_false hq, Bool.false_and]
      refine revals hA (rc 25 (show .bool (withinF 0 ((n : Int) - 1) [i]) = .bool false by rw [hwb]) rn) (by kernel_rfl) fun hA => ?_
      refine runS hA 12 [] xn on (by kernel_rfl) fun w5 hA => ?_
      have he : payE b fs i = 5 := by unfold payE; rw [if_pos h0, if_neg (by rw [hnl]; exact hi)]
      exact ret (v := .tuple #[.int .i64 0, .int .i64 5]) hA [] (by kernel_rfl) ⟨by unfold payA; rw [he, if_neg (by decide)], hA.below⟩
  case neg =>
    refine callB hA [] on (tillAt_any w1 B b A n c A2 m c2 A3 nf cf fs (h.below hA.below hB) (hf.below hA.below hB) (Nat.le_trans hB hA.size)) (by kernel_rfl) fun w2 hb2 hA => ?_
    refine revals hA (rc 13 (show .tuple #[(atV b fs A n c A2 m c2), .int .i64 (atF b fs)] = .tuple #[.agg #[.int .i64 0, .int .i64 0, .slice none 0 0, .slice none 0 0, .bool false, .int .i64 0, .int .i64 0, .int .i64 0, .int .i64 0, .int .i64 0, .int .i64 0, .int .i64 0, .int .i64 0, .int .i64 0, .int .i64 0], .int .i64 (atF b fs)] by rw [show atV b fs A n c A2 m c2 = tlV zeroT none 0 0 none 0 0 from if_neg h0]; rfl) rn) (by kernel_rfl) fun hA => ?_
    refine runS hA 25 (List.replicate 15 (.k 1) ++ [.b true]) xn (oc (ne_t h0) on) (by kernel_rfl) fun w3 hA => ?_
    have he : payE b fs i = atF b fs := if_neg h0
    exact ret (v := .tuple #[.int .i64 0, .int .i64 (atF b fs)]) hA [] (by kernel_rfl) ⟨by unfold payA; rw [he, if_neg h0], hA.below⟩
end Go.Proofs.YtbahiemjaomdcaaGreat

/- pool: Winners. -/
namespace Go.Proofs.YtbahiemjaomdcaaGreat
open Go.RowKit Go.Shelf

/-- Pairs as the cells of a row. -/
def encW (ws : List (Int × Int)) : List Value := ws.flatMap fun x => [.int .i64 x.1, .int .i64 x.2]
theorem encW_snoc (ws : List (Int × Int)) (x : Int × Int) : encW (ws ++ [x]) = encW ws ++ [.int .i64 x.1, .int .i64 x.2] := by simp [encW]
/-- A value of a row with its blocks. -/
abbrev RowG := { p : Value × List KB // ∀ kb ∈ p.2, kb.obj.isCells = true }
theorem RowV.cells {T : TypeId} {k n : Nat} {v : Value} {vs : List Value} {ob : List KB} (h : RowV T k v n vs ob) : ∀ kb ∈ ob, kb.obj.isCells = true := by
  rcases h.2 with ⟨-, -, rfl⟩ | ⟨g, cap, cur, -, rfl, -⟩
  · exact fun kb h => nomatch h
  · intro kb hk
    rw [List.mem_singleton.1 hk]
    rfl
def winA (b : Bk) (fs : List (List Int)) : List (Int × Int) := if atF b fs = 0 then winF b fs else []
set_option maxRecDepth 20000 in
theorem Winners_any (w : World) (B : Nat) (b : Bk) (A : Option Addr) (n c : Nat) (A2 : Option Addr) (m c2 : Nat) (A3 : Option Addr) (nf cf : Nat) (fs : List (List Int)) (h : BkAt w B b A n c A2 m c2) (hf : FinAt w B A3 nf fs) (hB : B ≤ w.heap.size) :
    Calls Tryz.prog 21 #[bkV b A n c A2 m c2, .slice A3 nf cf] w fun e w' => ∃ v : Value, e = .returned (.tuple #[v, .int .i64 (atF b fs)]) ∧ Below w.heap.size w w' ∧ w'.ownsRow w.heap.size 57 2 v (winA b fs).length (encW (winA b fs)) ∧ (atF b fs ≠ 0 → v = .slice none 0 0) := by
  refine enterM 33 Tryz.func21 (by kernel_rfl) fun hA => ?_
  refine runS hA 11 (List.replicate 8 (.k 0)) xn on (by kernel_rfl) fun w1 hA => ?_
  by_cases h0 : atF b fs = 0
  case pos =>
    refine callB hA [] on (tillAt_any w1 B b A n c A2 m c2 A3 nf cf fs (h.below hA.below hB) (hf.below hA.below hB) (Nat.le_trans hB hA.size)) (by kernel_rfl) fun w2 hb2 hA => ?_
    refine revals hA (rc 13 (show .tuple #[(atV b fs A n c A2 m c2), .int .i64 (atF b fs)] = .tuple #[.agg #[.int .i64 ((tilF b).b.kind), .int .i64 ((tilF b).b.runners), .slice A n c, .slice A2 m c2, .bool ((tilF b).b.fav), .int .i64 ((tilF b).b.car), .int .i64 ((tilF b).b.dut), .int .i64 ((tilF b).b.stp), .int .i64 ((tilF b).heir), .int .i64 ((tilF b).a.inn), .int .i64 ((tilF b).a.back), .int .i64 ((tilF b).a.duty), .int .i64 ((tilF b).a.paid), .int .i64 ((tilF b).a.kept), .int .i64 ((tilF b).a.over)], .int .i64 (atF b fs)] by rw [show atV b fs A n c A2 m c2 = tlV (tilF b) A n c A2 m c2 from if_pos h0]) rn) (by kernel_rfl) fun hA => ?_
    obtain ⟨V, fo⟩ := at_ok h0
    have hnl := h.bets.1
    have hv2 := V.len
    have hpo := payF_ok (t := tilF b) (fs := fs) (units_ok V) V.len fo.ws
    have hac := acc_ok V
    refine runS hA 29 (List.replicate 15 (.k 1) ++ [.b false] ++ List.replicate 8 (.k 1)) xn (oc (ne_f h0) on) (by kernel_rfl) fun w3 hA => ?_
    have hzq : w3.heap.size = w2.heap.size + 2 := hA.at_.size.trans (by kernel_rfl)
    have hlw : w.heap.size < w3.heap.size := hA.at_.lt (kb := ⟨w.heap.size, .cells #[.int .i64 b.kind, .int .i64 b.runners, .slice A n c, .slice A2 m c2, .bool b.fav, .int .i64 b.car, .int .i64 b.dut, .int .i64 b.stp] 25 (0, 0)⟩) (List.mem_of_getElem? (i := 0) (by kernel_rfl))
    refine call hA [] on (winners_any w3 b A n c A2 m c2 B A3 nf cf fs (hf.below hA.below hB) (Nat.le_trans hB hA.size) (hf.1 ▸ fo.pos) (by rw [← hf.1]; exact fo.one) (by have := fo.l0; omega) (by have := fo.l1; omega)) (by kernel_rfl) (by rintro e v ⟨gf, lb, rfl, hbw, hW⟩; exact hbw) ?_
    rintro e w4 ⟨gf, lb, rfl, hbw, hW⟩
    refine ⟨_, rfl, fun hA => ?_⟩
    replace hA := hA.allK [⟨w.heap.size, .cells #[.int .i64 b.kind, .int .i64 b.runners, .slice A n c, .slice A2 m c2, .bool b.fav, .int .i64 b.car, .int .i64 b.dut, .int .i64 b.stp] 25 (0, 0)⟩, ⟨w2.heap.size, .cells #[.int .i64 ((tilF b).b.kind), .int .i64 ((tilF b).b.runners), .slice A n c, .slice A2 m c2, .bool ((tilF b).b.fav), .int .i64 ((tilF b).b.car), .int .i64 ((tilF b).b.dut), .int .i64 ((tilF b).b.stp), .int .i64 ((tilF b).heir), .int .i64 ((tilF b).a.inn), .int .i64 ((tilF b).a.back), .int .i64 ((tilF b).a.duty), .int .i64 ((tilF b).a.paid), .int .i64 ((tilF b).a.kept), .int .i64 ((tilF b).a.over)] 74 (0, 0)⟩, ⟨w2.heap.size + 1, .cells #[.slice none 0 0] 49 (0, 0)⟩] (by kernel_rfl)
    have hA2 := hA.atK [⟨w.heap.size, .cells #[.int .i64 b.kind, .int .i64 b.runners, .slice A n c, .slice A2 m c2, .bool b.fav, .int .i64 b.car, .int .i64 b.dut, .int .i64 b.stp] 25 (0, 0)⟩, ⟨w2.heap.size, .cells #[.int .i64 ((tilF b).b.kind), .int .i64 ((tilF b).b.runners), .slice A n c, .slice A2 m c2, .bool ((tilF b).b.fav), .int .i64 ((tilF b).b.car), .int .i64 ((tilF b).b.dut), .int .i64 ((tilF b).b.stp), .int .i64 ((tilF b).heir), .int .i64 ((tilF b).a.inn), .int .i64 ((tilF b).a.back), .int .i64 ((tilF b).a.duty), .int .i64 ((tilF b).a.paid), .int .i64 ((tilF b).a.kept), .int .i64 ((tilF b).a.over)] 74 (0, 0)⟩, ⟨w2.heap.size + 1, .cells #[.slice none 0 0] 49 (0, 0)⟩] (by kernel_rfl)
    refine runS hA 3 [] xn on (by kernel_rfl) fun w5 hA => ?_
    have hz3 : w5.heap.size = w4.heap.size := hA.at_.size.trans (by kernel_rfl)
    have hb3 : Below w4.heap.size w4 w5 := below_all hA2 (hA.atK [⟨w.heap.size, .cells #[.int .i64 b.kind, .int .i64 b.runners, .slice A n c, .slice A2 m c2, .bool b.fav, .int .i64 b.car, .int .i64 b.dut, .int .i64 b.stp] 25 (0, 0)⟩, ⟨w2.heap.size, .cells #[.int .i64 ((tilF b).b.kind), .int .i64 ((tilF b).b.runners), .slice A n c, .slice A2 m c2, .bool ((tilF b).b.fav), .int .i64 ((tilF b).b.car), .int .i64 ((tilF b).b.dut), .int .i64 ((tilF b).b.stp), .int .i64 ((tilF b).heir), .int .i64 ((tilF b).a.inn), .int .i64 ((tilF b).a.back), .int .i64 ((tilF b).a.duty), .int .i64 ((tilF b).a.paid), .int .i64 ((tilF b).a.kept), .int .i64 ((tilF b).a.over)] 74 (0, 0)⟩, ⟨w2.heap.size + 1, .cells #[.slice none 0 0] 49 (0, 0)⟩] (by kernel_rfl)) rfl (Nat.le_of_eq hz3.symm)
    replace hA := hA.bare
    have hzw := hbw.size
    refine rangeS (γ := RowG) (α := Int × Int) (fun p => [⟨w.heap.size, .cells #[.int .i64 b.kind, .int .i64 b.runners, .slice A n c, .slice A2 m c2, .bool b.fav, .int .i64 b.car, .int .i64 b.dut, .int .i64 b.stp] 25 (0, 0)⟩, ⟨w2.heap.size, .cells #[.int .i64 ((tilF b).b.kind), .int .i64 ((tilF b).b.runners), .slice A n c, .slice A2 m c2, .bool ((tilF b).b.fav), .int .i64 ((tilF b).b.car), .int .i64 ((tilF b).b.dut), .int .i64 ((tilF b).b.stp), .int .i64 ((tilF b).heir), .int .i64 ((tilF b).a.inn), .int .i64 ((tilF b).a.back), .int .i64 ((tilF b).a.duty), .int .i64 ((tilF b).a.paid), .int .i64 ((tilF b).a.kept), .int .i64 ((tilF b).a.over)] 74 (0, 0)⟩, ⟨w2.heap.size + 1, .cells #[p.1.1] 49 (0, 0)⟩]) (fun p => p.1.2) (fun pre p => RowV 57 2 p.1.1 pre.length (encW pre) p.1.2) (fun x z => [(8, .pointer (some ⟨w2.heap.size + 1, 0, none⟩)), (9, .pointer (some ⟨z, 0, none⟩))]) (fun x z => [⟨z, .cells #[.int .i64 x.1, .int .i64 x.2] 85 (0, 0)⟩]) [true, true, true] ⟨(.slice none 0 0, []), fun _ h => nomatch h⟩ 1 hA rfl (by kernel_rfl) hW.1 ((hW.2 w.heap.size hB (by omega)).later hb3) (fun _ => rfl) (Nat.le_refl _) (fun k hk => by have := hk.2; omega) (fun kb hk hc => by simp only [List.nil_append, List.mem_cons, List.not_mem_nil, or_false] at hk; have := hc.1; rcases hk with rfl | rfl | rfl <;> dsimp only at this <;> omega) (fun p => p.2) (fun o kb hk => by simp only [List.mem_cons, List.not_mem_nil, or_false] at hk; rcases hk with rfl | rfl | rfl <;> dsimp only <;> omega) (fun x z kb h => by first | (rw [List.mem_singleton.1 h]; exact ⟨rfl, Nat.le_refl _⟩) | nomatch h) (RowV.nil _ _) ?_ ?_ ?_
    · rintro l x ⟨⟨v, ob⟩, hob⟩ rows W J hJ hA
      refine runS hA 4 [.k 3, .k 3] xn on (by kernel_rfl) fun w6 hA => ?_
      exact rend hJ [true, true, true, true] hA (by kernel_rfl)
    · rintro l pre x ⟨⟨v, ob⟩, hob⟩ z prot W J hrel hlen hsz hJ hA
      refine runS hA 9 [.k 2, .k 3, .k 3] xn on (by kernel_rfl) fun w7 hA => ?_
      have hws := fo.ws
      refine app (t := 49) (e := 57) (ty := 49) (z := .agg #[.int .i64 0, .int .i64 0]) (size := 2) (bytes := 16) (v := v) (n := pre.length) (m := 1) (cp := 1) (j := 4) (vs := encW pre) (news := [.int .i64 x.1, .int .i64 x.2]) (kb := ⟨W.heap.size, .cells #[.int .i64 x.1, .int .i64 x.2] 57 (0, 0)⟩) hA hrel (by kernel_rfl) (by kernel_rfl) rfl rfl rfl rfl (by omega) (by omega) fun v1 w8 ob1 hr1 hnil1 hA => ?_
      obtain ⟨g1, cap1, cur1, rfl, rfl, -⟩ : ∃ g1 cap1 cur1, v1 = .slice (some ⟨g1, 0, none⟩) (pre.length + 1) cap1 ∧ ob1 = [⟨g1, .cells cur1 57 (0, 0)⟩] ∧ True := by
        rcases hr1.2 with ⟨-, h, -⟩ | ⟨g1, cap1, cur1, h1, h2, -⟩
        · omega
        · exact ⟨g1, cap1, cur1, h1, h2, trivial⟩
      refine runS hA 3 [.k 2] xn on (by kernel_rfl) fun w9 hA => ?_
      exact rend (fr1 := []) (fun a' W' h1 h2 h3 h4 => hJ ⟨(.slice (some ⟨g1, 0, none⟩) (pre.length + 1) cap1, [⟨g1, .cells cur1 57 (0, 0)⟩]), hr1.cells⟩ a' W' (by rw [encW_snoc, List.length_append]; exact hr1) h1 h2 h3 h4) [true, true, true, false, false] hA (by kernel_rfl)
    · rintro D xs ⟨⟨v, ob⟩, hob⟩ W hS hrel hD hA
      obtain rfl := hS
      refine runS hA 10 [.k 2] xn on (by kernel_rfl) fun w6 hA => ?_
      refine retM (kn' := [⟨w.heap.size, .cells #[.int .i64 b.kind, .int .i64 b.runners, .slice A n c, .slice A2 m c2, .bool b.fav, .int .i64 b.car, .int .i64 b.dut, .int .i64 b.stp] 25 (0, 0)⟩, ⟨w2.heap.size, .cells #[.int .i64 ((tilF b).b.kind), .int .i64 ((tilF b).b.runners), .slice A n c, .slice A2 m c2, .bool ((tilF b).b.fav), .int .i64 ((tilF b).b.car), .int .i64 ((tilF b).b.dut), .int .i64 ((tilF b).b.stp), .int .i64 ((tilF b).heir), .int .i64 ((tilF b).a.inn), .int .i64 ((tilF b).a.back), .int .i64 ((tilF b).a.duty), .int .i64 ((tilF b).a.paid), .int .i64 ((tilF b).a.kept), .int .i64 ((tilF b).a.over)] 74 (0, 0)⟩, ⟨w2.heap.size + 1, .cells #[v] 49 (0, 0)⟩]) (v := .tuple #[v, .int .i64 0]) [3] hA [] (by kernel_rfl) (fun w' hA' => ?_)
      exact ⟨v, by rw [h0], hA'.below, by unfold winA; rw [if_pos h0]; exact hrel.own (by rw [List.append_nil]; exact hA'), fun he => absurd h0 he⟩
  case neg =>
    refine callB hA [] on (tillAt_any w1 B b A n c A2 m c2 A3 nf cf fs (h.below hA.below hB) (hf.below hA.below hB) (Nat.le_trans hB hA.size)) (by kernel_rfl) fun w2 hb2 hA => ?_
    refine revals hA (rc 13 (show .tuple #[(atV b fs A n c A2 m c2), .int .i64 (atF b fs)] = .tuple #[.agg #[.int .i64 0, .int .i64 0, .slice none 0 0, .slice none 0 0, .bool false, .int .i64 0, .int .i64 0, .int .i64 0, .int .i64 0, .int .i64 0, .int .i64 0, .int .i64 0, .int .i64 0, .int .i64 0, .int .i64 0], .int .i64 (atF b fs)] by rw [show atV b fs A n c A2 m c2 = tlV zeroT none 0 0 none 0 0 from if_neg h0]; rfl) rn) (by kernel_rfl) fun hA => ?_
    refine runS hA 25 (List.replicate 15 (.k 1) ++ [.b true]) xn (oc (ne_t h0) on) (by kernel_rfl) fun w3 hA => ?_
    refine retM (kn' := [⟨w.heap.size, .cells #[.int .i64 b.kind, .int .i64 b.runners, .slice A n c, .slice A2 m c2, .bool b.fav, .int .i64 b.car, .int .i64 b.dut, .int .i64 b.stp] 25 (0, 0)⟩, ⟨w2.heap.size, .cells #[.int .i64 0, .int .i64 0, .slice none 0 0, .slice none 0 0, .bool false, .int .i64 0, .int .i64 0, .int .i64 0, .int .i64 0, .int .i64 0, .int .i64 0, .int .i64 0, .int .i64 0, .int .i64 0, .int .i64 0] 74 (0, 0)⟩]) (v := .tuple #[.slice none 0 0, .int .i64 (atF b fs)]) [] hA [] (by kernel_rfl) (fun w' hA' => ?_)
    exact ⟨.slice none 0 0, by rfl, hA'.below, by unfold winA; rw [if_neg h0]; exact ⟨rfl, .inl ⟨rfl, rfl⟩⟩, fun _ => rfl⟩
end Go.Proofs.YtbahiemjaomdcaaGreat

/- pool: Dividends. -/
namespace Go.Proofs.YtbahiemjaomdcaaGreat
open Go.RowKit Go.Shelf

theorem At.know {w0 w w' : World} {kn rows : List KB} {sz mb : Nat} {ob : Obj} (h : At w0 w kn rows sz) (hb : Below w.heap.size w w') (ho : w'.heap[mb]? = some ob) (hm : w.heap.size ≤ mb) : At w0 w' (kn ++ [⟨mb, ob⟩]) rows w'.heap.size := by
  have h' := h.call hb
  refine ⟨fun kb hk => ?_, h'.rok, fun kb hk => ?_, h'.rlow, ?_, rfl, h'.below⟩
  · rcases List.mem_append.1 hk with hk | hk
    · exact h'.ok kb hk
    · rw [List.mem_singleton.1 hk]; exact ho
  · rcases List.mem_append.1 hk with hk | hk
    · exact h'.low kb hk
    · rw [List.mem_singleton.1 hk]; exact Nat.le_trans h.below.size hm
  · rw [← List.append_assoc, List.map_append, List.nodup_append]
    refine ⟨h'.nd, by simp, ?_⟩
    intro a ha b hb2 e
    simp only [List.map_cons, List.map_nil, List.mem_singleton] at hb2
    subst hb2
    obtain ⟨kb, hkb, rfl⟩ := List.mem_map.1 ha
    have hlt : kb.id < w.heap.size := by
      rcases List.mem_append.1 hkb with hk | hk
      · exact h.rlt hk
      · exact h.lt hk
    omega
/-- The dividends of these winners. -/
def divL (t : Till) (m : PM) (ws : List (Int × Int)) : List ((Int × Int) × Int) := (ws.filter fun x => decide (0 < mget 0 m x)).map fun x => (x, divF t m x)
def encD (ds : List ((Int × Int) × Int)) : List Value := ds.flatMap fun d => [.int .i64 d.1.1, .int .i64 d.1.2, .int .i64 d.2]
theorem encD_snoc (ds : List ((Int × Int) × Int)) (d : (Int × Int) × Int) : encD (ds ++ [d]) = encD ds ++ [.int .i64 d.1.1, .int .i64 d.1.2, .int .i64 d.2] := by simp [encD]
theorem divL_yes {t : Till} {m : PM} {ws : List (Int × Int)} {x : Int × Int} (h : 0 < mget 0 m x) : divL t m (ws ++ [x]) = divL t m ws ++ [(x, divF t m x)] := by simp [divL, h]
theorem divL_no {t : Till} {m : PM} {ws : List (Int × Int)} {x : Int × Int} (h : ¬ 0 < mget 0 m x) : divL t m (ws ++ [x]) = divL t m ws := by simp [divL, h]
theorem divL_len (t : Till) (m : PM) (ws : List (Int × Int)) : (divL t m ws).length ≤ ws.length := by
  unfold divL
  rw [List.length_map]
  exact List.length_filter_le _ _
def dvE (b : Bk) (fs : List (List Int)) : Int := if atF b fs = 0 then (if (payF (tilF b) fs).length = 0 then 19 else 0) else atF b fs
def dvA (b : Bk) (fs : List (List Int)) : List ((Int × Int) × Int) := if dvE b fs = 0 then divL (tilF b) (payF (tilF b) fs) (winF b fs) else []
set_option maxRecDepth 20000 in
theorem Dividends_any (w : World) (B : Nat) (b : Bk) (A : Option Addr) (n c : Nat) (A2 : Option Addr) (m c2 : Nat) (A3 : Option Addr) (nf cf : Nat) (fs : List (List Int)) (h : BkAt w B b A n c A2 m c2) (hf : FinAt w B A3 nf fs) (hB : B ≤ w.heap.size) :
    Calls Tryz.prog 9 #[bkV b A n c A2 m c2, .slice A3 nf cf] w fun e w' => ∃ v : Value, e = .returned (.tuple #[v, .int .i64 (dvE b fs)]) ∧ Below w.heap.size w w' ∧ w'.ownsRow w.heap.size 59 3 v (dvA b fs).length (encD (dvA b fs)) ∧ (dvE b fs ≠ 0 → v = .slice none 0 0) := by
  refine enterM 50 Tryz.func9 (by kernel_rfl) fun hA => ?_
  refine runS hA 11 (List.replicate 8 (.k 0)) xn on (by kernel_rfl) fun w1 hA => ?_
  by_cases h0 : atF b fs = 0
  case pos =>
    refine callB hA [] on (tillAt_any w1 B b A n c A2 m c2 A3 nf cf fs (h.below hA.below hB) (hf.below hA.below hB) (Nat.le_trans hB hA.size)) (by kernel_rfl) fun w2 hb2 hA => ?_
    refine revals hA (rc 14 (show .tuple #[(atV b fs A n c A2 m c2), .int .i64 (atF b fs)] = .tuple #[.agg #[.int .i64 ((tilF b).b.kind), .int .i64 ((tilF b).b.runners), .slice A n c, .slice A2 m c2, .bool ((tilF b).b.fav), .int .i64 ((tilF b).b.car), .int .i64 ((tilF b).b.dut), .int .i64 ((tilF b).b.stp), .int .i64 ((tilF b).heir), .int .i64 ((tilF b).a.inn), .int .i64 ((tilF b).a.back), .int .i64 ((tilF b).a.duty), .int .i64 ((tilF b).a.paid), .int .i64 ((tilF b).a.kept), .int .i64 ((tilF b).a.over)], .int .i64 (atF b fs)] by rw [show atV b fs A n c A2 m c2 = tlV (tilF b) A n c A2 m c2 from if_pos h0]) rn) (by kernel_rfl) fun hA => ?_
    obtain ⟨V, fo⟩ := at_ok h0
    have hnl := h.bets.1
    have hv2 := V.len
    have hpo := payF_ok (t := tilF b) (fs := fs) (units_ok V) V.len fo.ws
    have hac := acc_ok V
    refine runS hA 22 (List.replicate 15 (.k 1) ++ [.b false] ++ List.replicate 15 (.k 1)) xn (oc (ne_f h0) on) (by kernel_rfl) fun w3 hA => ?_
    have hAp := hA.atK [⟨w.heap.size, .cells #[.int .i64 b.kind, .int .i64 b.runners, .slice A n c, .slice A2 m c2, .bool b.fav, .int .i64 b.car, .int .i64 b.dut, .int .i64 b.stp] 25 (0, 0)⟩, ⟨w2.heap.size, .cells #[.int .i64 ((tilF b).b.kind), .int .i64 ((tilF b).b.runners), .slice A n c, .slice A2 m c2, .bool ((tilF b).b.fav), .int .i64 ((tilF b).b.car), .int .i64 ((tilF b).b.dut), .int .i64 ((tilF b).b.stp), .int .i64 ((tilF b).heir), .int .i64 ((tilF b).a.inn), .int .i64 ((tilF b).a.back), .int .i64 ((tilF b).a.duty), .int .i64 ((tilF b).a.paid), .int .i64 ((tilF b).a.kept), .int .i64 ((tilF b).a.over)] 74 (0, 0)⟩] (by kernel_rfl)
    refine call hA [] on (payout_any w3 B (tilF b) A n c A2 m c2 A3 nf cf fs (h.below hA.below hB) (hf.below hA.below hB) (Nat.le_trans hB hA.size) (hf.1 ▸ fo.pos) (by rw [← hf.1]; exact fo.one) (by have := fo.l0; omega) (by have := fo.l1; omega) (units_ok V) (by omega)) (by kernel_rfl) (by rintro e v ⟨mb, ob, rfl, hbp, hmb, hmo, hml⟩; exact hbp) ?_
    rintro e w4 ⟨mb, ob, rfl, hbp, hmb, hmo, hml⟩
    refine ⟨_, rfl, fun hA => ?_⟩
    obtain ⟨mm, hmm⟩ : ∃ mm, mm = payF (tilF b) fs := ⟨_, rfl⟩
    rw [← hmm] at hmo hpo
    have hAq := At.know hAp hbp hmb hml
    refine reknow ⟨[⟨w.heap.size, .cells #[.int .i64 b.kind, .int .i64 b.runners, .slice A n c, .slice A2 m c2, .bool b.fav, .int .i64 b.car, .int .i64 b.dut, .int .i64 b.stp] 25 (0, 0)⟩, ⟨w2.heap.size, .cells #[.int .i64 ((tilF b).b.kind), .int .i64 ((tilF b).b.runners), .slice A n c, .slice A2 m c2, .bool ((tilF b).b.fav), .int .i64 ((tilF b).b.car), .int .i64 ((tilF b).b.dut), .int .i64 ((tilF b).b.stp), .int .i64 ((tilF b).heir), .int .i64 ((tilF b).a.inn), .int .i64 ((tilF b).a.back), .int .i64 ((tilF b).a.duty), .int .i64 ((tilF b).a.paid), .int .i64 ((tilF b).a.kept), .int .i64 ((tilF b).a.over)] 74 (0, 0)⟩, ⟨mb, ob⟩], w4.heap.size, [], [], [], [], []⟩ hAq (Nat.zero_le _) fun hA => ?_
    refine runS hA 9 (List.replicate 17 (.k 3)) xn on (by kernel_rfl) fun w5 hA => ?_
    refine mapLenW (mt := 77) (et := 2) (ty := 3) (b := mb) (α := Int) (enc := iv) hA keySpot ((hmo.at (hA.at_.ok ⟨mb, ob⟩ (List.mem_of_getElem? (i := 2) (by kernel_rfl))))) (by kernel_rfl) fun hA => ?_
    by_cases hl0 : mm.length = 0
    case pos =>
      refine runS hA 12 [.b true] xn (oc (eq_t (a := (mm.length : Int)) (b := 0) (by omega)) on) (by kernel_rfl) fun w6 hA => ?_
      have he : dvE b fs = 19 := by unfold dvE; rw [if_pos h0, ← hmm, if_pos hl0]
      refine retM (kn' := [⟨w.heap.size, .cells #[.int .i64 b.kind, .int .i64 b.runners, .slice A n c, .slice A2 m c2, .bool b.fav, .int .i64 b.car, .int .i64 b.dut, .int .i64 b.stp] 25 (0, 0)⟩, ⟨w2.heap.size, .cells #[.int .i64 ((tilF b).b.kind), .int .i64 ((tilF b).b.runners), .slice A n c, .slice A2 m c2, .bool ((tilF b).b.fav), .int .i64 ((tilF b).b.car), .int .i64 ((tilF b).b.dut), .int .i64 ((tilF b).b.stp), .int .i64 ((tilF b).heir), .int .i64 ((tilF b).a.inn), .int .i64 ((tilF b).a.back), .int .i64 ((tilF b).a.duty), .int .i64 ((tilF b).a.paid), .int .i64 ((tilF b).a.kept), .int .i64 ((tilF b).a.over)] 74 (0, 0)⟩, ⟨mb, ob⟩, ⟨w4.heap.size, .cells #[.int .i64 ((tilF b).b.kind), .int .i64 ((tilF b).b.runners), .slice A n c, .slice A2 m c2, .bool ((tilF b).b.fav), .int .i64 ((tilF b).b.car), .int .i64 ((tilF b).b.dut), .int .i64 ((tilF b).b.stp), .int .i64 ((tilF b).heir), .int .i64 ((tilF b).a.inn), .int .i64 ((tilF b).a.back), .int .i64 ((tilF b).a.duty), .int .i64 ((tilF b).a.paid), .int .i64 ((tilF b).a.kept), .int .i64 ((tilF b).a.over), .map (some mb)] 79 (0, 0)⟩]) (v := .tuple #[.slice none 0 0, .int .i64 19]) [] hA [] (by kernel_rfl) (fun w' hA' => ?_)
      exact ⟨.slice none 0 0, by rw [he], hA'.below, by unfold dvA; rw [he, if_neg (by decide)]; exact ⟨rfl, .inl ⟨rfl, rfl⟩⟩, fun _ => rfl⟩
    case neg =>
      refine runS hA 18 ([.b false] ++ List.replicate 8 (.k 3)) xn (oc (eq_f (a := (mm.length : Int)) (b := 0) (by omega)) on) (by kernel_rfl) fun w6 hA => ?_
      have he : dvE b fs = 0 := by unfold dvE; rw [if_pos h0, ← hmm, if_neg hl0]
      have hl_0 : w.heap.size < w6.heap.size := hA.at_.lt (kb := ⟨w.heap.size, .cells #[.int .i64 b.kind, .int .i64 b.runners, .slice A n c, .slice A2 m c2, .bool b.fav, .int .i64 b.car, .int .i64 b.dut, .int .i64 b.stp] 25 (0, 0)⟩) (List.mem_of_getElem? (i := 0) (by kernel_rfl))
      have hl_1 : w2.heap.size < w6.heap.size := hA.at_.lt (kb := ⟨w2.heap.size, .cells #[.int .i64 ((tilF b).b.kind), .int .i64 ((tilF b).b.runners), .slice A n c, .slice A2 m c2, .bool ((tilF b).b.fav), .int .i64 ((tilF b).b.car), .int .i64 ((tilF b).b.dut), .int .i64 ((tilF b).b.stp), .int .i64 ((tilF b).heir), .int .i64 ((tilF b).a.inn), .int .i64 ((tilF b).a.back), .int .i64 ((tilF b).a.duty), .int .i64 ((tilF b).a.paid), .int .i64 ((tilF b).a.kept), .int .i64 ((tilF b).a.over)] 74 (0, 0)⟩) (List.mem_of_getElem? (i := 1) (by kernel_rfl))
      have hl_2 : mb < w6.heap.size := hA.at_.lt (kb := ⟨mb, ob⟩) (List.mem_of_getElem? (i := 2) (by kernel_rfl))
      have hl_3 : w4.heap.size < w6.heap.size := hA.at_.lt (kb := ⟨w4.heap.size, .cells #[.int .i64 ((tilF b).b.kind), .int .i64 ((tilF b).b.runners), .slice A n c, .slice A2 m c2, .bool ((tilF b).b.fav), .int .i64 ((tilF b).b.car), .int .i64 ((tilF b).b.dut), .int .i64 ((tilF b).b.stp), .int .i64 ((tilF b).heir), .int .i64 ((tilF b).a.inn), .int .i64 ((tilF b).a.back), .int .i64 ((tilF b).a.duty), .int .i64 ((tilF b).a.paid), .int .i64 ((tilF b).a.kept), .int .i64 ((tilF b).a.over), .map (some mb)] 79 (0, 0)⟩) (List.mem_of_getElem? (i := 3) (by kernel_rfl))
      have hl_4 : w5.heap.size < w6.heap.size := hA.at_.lt (kb := ⟨w5.heap.size, .cells #[.slice none 0 0] 30 (0, 0)⟩) (List.mem_of_getElem? (i := 4) (by kernel_rfl))
      refine call hA [] on (winners_any w6 b A n c A2 m c2 B A3 nf cf fs (hf.below hA.below hB) (Nat.le_trans hB hA.size) (hf.1 ▸ fo.pos) (by rw [← hf.1]; exact fo.one) (by have := fo.l0; omega) (by have := fo.l1; omega)) (by kernel_rfl) (by rintro e v ⟨gf, lb, rfl, hbw, hW⟩; exact hbw) ?_
      rintro e w7 ⟨gf, lb, rfl, hbw, hW⟩
      refine ⟨_, rfl, fun hA => ?_⟩
      replace hA := hA.allK [⟨w.heap.size, .cells #[.int .i64 b.kind, .int .i64 b.runners, .slice A n c, .slice A2 m c2, .bool b.fav, .int .i64 b.car, .int .i64 b.dut, .int .i64 b.stp] 25 (0, 0)⟩, ⟨w2.heap.size, .cells #[.int .i64 ((tilF b).b.kind), .int .i64 ((tilF b).b.runners), .slice A n c, .slice A2 m c2, .bool ((tilF b).b.fav), .int .i64 ((tilF b).b.car), .int .i64 ((tilF b).b.dut), .int .i64 ((tilF b).b.stp), .int .i64 ((tilF b).heir), .int .i64 ((tilF b).a.inn), .int .i64 ((tilF b).a.back), .int .i64 ((tilF b).a.duty), .int .i64 ((tilF b).a.paid), .int .i64 ((tilF b).a.kept), .int .i64 ((tilF b).a.over)] 74 (0, 0)⟩, ⟨mb, ob⟩, ⟨w4.heap.size, .cells #[.int .i64 ((tilF b).b.kind), .int .i64 ((tilF b).b.runners), .slice A n c, .slice A2 m c2, .bool ((tilF b).b.fav), .int .i64 ((tilF b).b.car), .int .i64 ((tilF b).b.dut), .int .i64 ((tilF b).b.stp), .int .i64 ((tilF b).heir), .int .i64 ((tilF b).a.inn), .int .i64 ((tilF b).a.back), .int .i64 ((tilF b).a.duty), .int .i64 ((tilF b).a.paid), .int .i64 ((tilF b).a.kept), .int .i64 ((tilF b).a.over), .map (some mb)] 79 (0, 0)⟩, ⟨w5.heap.size, .cells #[.slice none 0 0] 30 (0, 0)⟩] (by kernel_rfl)
      have hA2 := hA.atK [⟨w.heap.size, .cells #[.int .i64 b.kind, .int .i64 b.runners, .slice A n c, .slice A2 m c2, .bool b.fav, .int .i64 b.car, .int .i64 b.dut, .int .i64 b.stp] 25 (0, 0)⟩, ⟨w2.heap.size, .cells #[.int .i64 ((tilF b).b.kind), .int .i64 ((tilF b).b.runners), .slice A n c, .slice A2 m c2, .bool ((tilF b).b.fav), .int .i64 ((tilF b).b.car), .int .i64 ((tilF b).b.dut), .int .i64 ((tilF b).b.stp), .int .i64 ((tilF b).heir), .int .i64 ((tilF b).a.inn), .int .i64 ((tilF b).a.back), .int .i64 ((tilF b).a.duty), .int .i64 ((tilF b).a.paid), .int .i64 ((tilF b).a.kept), .int .i64 ((tilF b).a.over)] 74 (0, 0)⟩, ⟨mb, ob⟩, ⟨w4.heap.size, .cells #[.int .i64 ((tilF b).b.kind), .int .i64 ((tilF b).b.runners), .slice A n c, .slice A2 m c2, .bool ((tilF b).b.fav), .int .i64 ((tilF b).b.car), .int .i64 ((tilF b).b.dut), .int .i64 ((tilF b).b.stp), .int .i64 ((tilF b).heir), .int .i64 ((tilF b).a.inn), .int .i64 ((tilF b).a.back), .int .i64 ((tilF b).a.duty), .int .i64 ((tilF b).a.paid), .int .i64 ((tilF b).a.kept), .int .i64 ((tilF b).a.over), .map (some mb)] 79 (0, 0)⟩, ⟨w5.heap.size, .cells #[.slice none 0 0] 30 (0, 0)⟩] (by kernel_rfl)
      refine runS hA 3 [] xn on (by kernel_rfl) fun w8 hA => ?_
      have hz3 : w8.heap.size = w7.heap.size := hA.at_.size.trans (by kernel_rfl)
      have hb3 : Below w7.heap.size w7 w8 := below_all hA2 (hA.atK [⟨w.heap.size, .cells #[.int .i64 b.kind, .int .i64 b.runners, .slice A n c, .slice A2 m c2, .bool b.fav, .int .i64 b.car, .int .i64 b.dut, .int .i64 b.stp] 25 (0, 0)⟩, ⟨w2.heap.size, .cells #[.int .i64 ((tilF b).b.kind), .int .i64 ((tilF b).b.runners), .slice A n c, .slice A2 m c2, .bool ((tilF b).b.fav), .int .i64 ((tilF b).b.car), .int .i64 ((tilF b).b.dut), .int .i64 ((tilF b).b.stp), .int .i64 ((tilF b).heir), .int .i64 ((tilF b).a.inn), .int .i64 ((tilF b).a.back), .int .i64 ((tilF b).a.duty), .int .i64 ((tilF b).a.paid), .int .i64 ((tilF b).a.kept), .int .i64 ((tilF b).a.over)] 74 (0, 0)⟩, ⟨mb, ob⟩, ⟨w4.heap.size, .cells #[.int .i64 ((tilF b).b.kind), .int .i64 ((tilF b).b.runners), .slice A n c, .slice A2 m c2, .bool ((tilF b).b.fav), .int .i64 ((tilF b).b.car), .int .i64 ((tilF b).b.dut), .int .i64 ((tilF b).b.stp), .int .i64 ((tilF b).heir), .int .i64 ((tilF b).a.inn), .int .i64 ((tilF b).a.back), .int .i64 ((tilF b).a.duty), .int .i64 ((tilF b).a.paid), .int .i64 ((tilF b).a.kept), .int .i64 ((tilF b).a.over), .map (some mb)] 79 (0, 0)⟩, ⟨w5.heap.size, .cells #[.slice none 0 0] 30 (0, 0)⟩] (by kernel_rfl)) rfl (Nat.le_of_eq hz3.symm)
      replace hA := hA.bare
      have hzw := hbw.size
      have hsu : w.heap.size ≤ w6.heap.size := by omega
      refine rangeS (γ := RowG) (α := Int × Int) (fun p => [⟨w.heap.size, .cells #[.int .i64 b.kind, .int .i64 b.runners, .slice A n c, .slice A2 m c2, .bool b.fav, .int .i64 b.car, .int .i64 b.dut, .int .i64 b.stp] 25 (0, 0)⟩, ⟨w2.heap.size, .cells #[.int .i64 ((tilF b).b.kind), .int .i64 ((tilF b).b.runners), .slice A n c, .slice A2 m c2, .bool ((tilF b).b.fav), .int .i64 ((tilF b).b.car), .int .i64 ((tilF b).b.dut), .int .i64 ((tilF b).b.stp), .int .i64 ((tilF b).heir), .int .i64 ((tilF b).a.inn), .int .i64 ((tilF b).a.back), .int .i64 ((tilF b).a.duty), .int .i64 ((tilF b).a.paid), .int .i64 ((tilF b).a.kept), .int .i64 ((tilF b).a.over)] 74 (0, 0)⟩, ⟨mb, ob⟩, ⟨w4.heap.size, .cells #[.int .i64 ((tilF b).b.kind), .int .i64 ((tilF b).b.runners), .slice A n c, .slice A2 m c2, .bool ((tilF b).b.fav), .int .i64 ((tilF b).b.car), .int .i64 ((tilF b).b.dut), .int .i64 ((tilF b).b.stp), .int .i64 ((tilF b).heir), .int .i64 ((tilF b).a.inn), .int .i64 ((tilF b).a.back), .int .i64 ((tilF b).a.duty), .int .i64 ((tilF b).a.paid), .int .i64 ((tilF b).a.kept), .int .i64 ((tilF b).a.over), .map (some mb)] 79 (0, 0)⟩, ⟨w5.heap.size, .cells #[p.1.1] 30 (0, 0)⟩]) (fun p => p.1.2) (fun pre p => RowV 59 3 p.1.1 (divL (tilF b) mm pre).length (encD (divL (tilF b) mm pre)) p.1.2) (fun x z => [(8, .pointer (some ⟨w4.heap.size, 0, none⟩)), (9, .pointer (some ⟨w5.heap.size, 0, none⟩)), (10, .pointer (some ⟨z, 0, none⟩))]) (fun x z => [⟨z, .cells #[.int .i64 x.1, .int .i64 x.2] 85 (0, 0)⟩]) [true, true, true, true, true] ⟨(.slice none 0 0, []), fun _ h => nomatch h⟩ 1 hA rfl (by kernel_rfl) hW.1 ((hW.2 w.heap.size hB hsu).later hb3) (fun _ => rfl) (Nat.le_refl _) (fun k hk => by have := hk.2; omega) (fun kb hk hc => by simp only [List.nil_append, List.mem_cons, List.not_mem_nil, or_false] at hk; have := hc.1; rcases hk with rfl | rfl | rfl | rfl | rfl <;> dsimp only at this <;> omega) (fun p => p.2) (fun o kb hk => by simp only [List.mem_cons, List.not_mem_nil, or_false] at hk; rcases hk with rfl | rfl | rfl | rfl | rfl <;> dsimp only <;> omega) (fun x z kb h => by first | (rw [List.mem_singleton.1 h]; exact ⟨rfl, Nat.le_refl _⟩) | nomatch h) (RowV.nil _ _) ?_ ?_ ?_
      · rintro l x ⟨⟨v, rb⟩, hob⟩ rows W J hJ hA
        refine runS hA 4 [.k 5, .k 5] xn on (by kernel_rfl) fun w9 hA => ?_
        exact rend hJ [true, true, true, true, true, true] hA (by kernel_rfl)
      · rintro l pre x ⟨⟨v, rb⟩, hob⟩ z prot W J hrel hlen hsz hJ hA
        refine runS hA 6 [.k 3, .k 5, .k 5] xn on (by kernel_rfl) fun w10 hA => ?_
        refine mapLookW (mt := 77) (et := 2) (p := x) (b := mb) (α := Int) (enc := iv) hA keySpot ((hmo.at (hA.at_.ok ⟨mb, ob⟩ (List.mem_of_getElem? (i := 2) (by kernel_rfl))))) ((0 : Int)) (fun _ => by kernel_rfl) (by kernel_rfl) fun hA => ?_
        by_cases hx0 : 0 < mget 0 mm x
        case neg =>
          refine runS hA 6 [.b false] xn (oc (dec_f (show ¬ (mget 0 mm x > 0) from hx0)) on) (by kernel_rfl) fun w11 hA => ?_
          exact rend (fr1 := []) (fun a' W' h1 h2 h3 h4 => hJ ⟨(v, rb), hob⟩ a' W' (by rw [divL_no hx0]; exact hrel) h1 h2 h3 h4) [true, true, true, true, true, false] hA (by kernel_rfl)
        case pos =>
          refine runS hA 4 [.b true] xn (oc (dec_t (show mget 0 mm x > 0 from hx0)) on) (by kernel_rfl) fun w11 hA => ?_
          have hws := fo.ws
          have hdl := divL_len (tilF b) mm pre
          refine draw hA [true, true, true, true, true, true] [0, 1, 2, 3, 4, 5, 6, 7, 8, 9] (by kernel_rfl) (by kernel_rfl) fun hA => ?_
          refine runS hA 7 ([.t 0, .k 4, .t 1, .t 2, .k 5, .t 3, .t 4, .k 5, .t 5] ++ List.replicate 16 (.k 3) ++ [.t 6, .k 5, .k 5]) xn on (by kernel_rfl) fun w12 hA => ?_
          refine callB hA [] on (dividend_any w12 (tilF b) A n c A2 m c2 mb ob mm (hA.at_.ok ⟨mb, ob⟩ (List.mem_of_getElem? (i := 2) (by kernel_rfl))) hmo (hA.at_.lt (kb := ⟨mb, ob⟩) (List.mem_of_getElem? (i := 2) (by kernel_rfl))) hpo.1 hac.1 V.stp x) (by kernel_rfl) fun w13 hb13 hA => ?_
          refine runS hA 3 [.t 8, .h 9, .b false] xn on (by kernel_rfl) fun w14 hA => ?_
          refine app (t := 30) (e := 59) (ty := 30) (z := .agg #[.int .i64 0, .int .i64 0, .int .i64 0]) (size := 3) (bytes := 24) (v := v) (n := (divL (tilF b) mm pre).length) (m := 1) (cp := 1) (j := 6) (vs := encD (divL (tilF b) mm pre)) (news := [.int .i64 x.1, .int .i64 x.2, .int .i64 (divF (tilF b) mm x)]) (kb := ⟨w13.heap.size, .cells #[.int .i64 x.1, .int .i64 x.2, .int .i64 (divF (tilF b) mm x)] 59 (0, 0)⟩) hA hrel (by kernel_rfl) (by kernel_rfl) rfl rfl rfl rfl (by omega) (by omega) fun v1 w15 ob1 hr1 hnil1 hA => ?_
          obtain ⟨g1, cap1, cur1, rfl, rfl, -⟩ : ∃ g1 cap1 cur1, v1 = .slice (some ⟨g1, 0, none⟩) ((divL (tilF b) mm pre).length + 1) cap1 ∧ ob1 = [⟨g1, .cells cur1 59 (0, 0)⟩] ∧ True := by
            rcases hr1.2 with ⟨-, h, -⟩ | ⟨g1, cap1, cur1, h1, h2, -⟩
            · omega
            · exact ⟨g1, cap1, cur1, h1, h2, trivial⟩
          refine runS hA 3 [.k 4] xn on (by kernel_rfl) fun w16 hA => ?_
          exact rend (fr1 := []) (fun a' W' h1 h2 h3 h4 => hJ ⟨(.slice (some ⟨g1, 0, none⟩) ((divL (tilF b) mm pre).length + 1) cap1, [⟨g1, .cells cur1 59 (0, 0)⟩]), hr1.cells⟩ a' W' (by rw [divL_yes hx0, encD_snoc, List.length_append]; exact hr1) h1 h2 h3 h4) [true, true, true, true, true, false, false] hA (by kernel_rfl)
      · rintro D xs ⟨⟨v, rb⟩, hob⟩ W hS hrel hD hA
        obtain rfl := hS
        refine runS hA 10 [.k 4] xn on (by kernel_rfl) fun w9 hA => ?_
        refine retM (kn' := [⟨w.heap.size, .cells #[.int .i64 b.kind, .int .i64 b.runners, .slice A n c, .slice A2 m c2, .bool b.fav, .int .i64 b.car, .int .i64 b.dut, .int .i64 b.stp] 25 (0, 0)⟩, ⟨w2.heap.size, .cells #[.int .i64 ((tilF b).b.kind), .int .i64 ((tilF b).b.runners), .slice A n c, .slice A2 m c2, .bool ((tilF b).b.fav), .int .i64 ((tilF b).b.car), .int .i64 ((tilF b).b.dut), .int .i64 ((tilF b).b.stp), .int .i64 ((tilF b).heir), .int .i64 ((tilF b).a.inn), .int .i64 ((tilF b).a.back), .int .i64 ((tilF b).a.duty), .int .i64 ((tilF b).a.paid), .int .i64 ((tilF b).a.kept), .int .i64 ((tilF b).a.over)] 74 (0, 0)⟩, ⟨mb, ob⟩, ⟨w4.heap.size, .cells #[.int .i64 ((tilF b).b.kind), .int .i64 ((tilF b).b.runners), .slice A n c, .slice A2 m c2, .bool ((tilF b).b.fav), .int .i64 ((tilF b).b.car), .int .i64 ((tilF b).b.dut), .int .i64 ((tilF b).b.stp), .int .i64 ((tilF b).heir), .int .i64 ((tilF b).a.inn), .int .i64 ((tilF b).a.back), .int .i64 ((tilF b).a.duty), .int .i64 ((tilF b).a.paid), .int .i64 ((tilF b).a.kept), .int .i64 ((tilF b).a.over), .map (some mb)] 79 (0, 0)⟩, ⟨w5.heap.size, .cells #[v] 30 (0, 0)⟩]) (v := .tuple #[v, .int .i64 0]) [5] hA [] (by kernel_rfl) (fun w' hA' => ?_)
        exact ⟨v, by rw [he], hA'.below, by unfold dvA; rw [he, if_pos rfl, ← hmm]; exact hrel.own (by rw [List.append_nil]; exact hA'), fun h => absurd he h⟩
  case neg =>
    refine callB hA [] on (tillAt_any w1 B b A n c A2 m c2 A3 nf cf fs (h.below hA.below hB) (hf.below hA.below hB) (Nat.le_trans hB hA.size)) (by kernel_rfl) fun w2 hb2 hA => ?_
    refine revals hA (rc 14 (show .tuple #[(atV b fs A n c A2 m c2), .int .i64 (atF b fs)] = .tuple #[.agg #[.int .i64 0, .int .i64 0, .slice none 0 0, .slice none 0 0, .bool false, .int .i64 0, .int .i64 0, .int .i64 0, .int .i64 0, .int .i64 0, .int .i64 0, .int .i64 0, .int .i64 0, .int .i64 0, .int .i64 0], .int .i64 (atF b fs)] by rw [show atV b fs A n c A2 m c2 = tlV zeroT none 0 0 none 0 0 from if_neg h0]; rfl) rn) (by kernel_rfl) fun hA => ?_
    refine runS hA 25 (List.replicate 15 (.k 1) ++ [.b true]) xn (oc (ne_t h0) on) (by kernel_rfl) fun w3 hA => ?_
    have he : dvE b fs = atF b fs := if_neg h0
    refine retM (kn' := [⟨w.heap.size, .cells #[.int .i64 b.kind, .int .i64 b.runners, .slice A n c, .slice A2 m c2, .bool b.fav, .int .i64 b.car, .int .i64 b.dut, .int .i64 b.stp] 25 (0, 0)⟩, ⟨w2.heap.size, .cells #[.int .i64 0, .int .i64 0, .slice none 0 0, .slice none 0 0, .bool false, .int .i64 0, .int .i64 0, .int .i64 0, .int .i64 0, .int .i64 0, .int .i64 0, .int .i64 0, .int .i64 0, .int .i64 0, .int .i64 0] 74 (0, 0)⟩]) (v := .tuple #[.slice none 0 0, .int .i64 (atF b fs)]) [] hA [] (by kernel_rfl) (fun w' hA' => ?_)
    exact ⟨.slice none 0 0, by rw [he], hA'.below, by unfold dvA; rw [he, if_neg h0]; exact ⟨rfl, .inl ⟨rfl, rfl⟩⟩, fun _ => rfl⟩
end Go.Proofs.YtbahiemjaomdcaaGreat

/- pool: slices.BinarySearch. -/
namespace Go.Proofs.YtbahiemjaomdcaaGreat
open Go.RowKit Go.Shelf

set_option maxRecDepth 20000 in
theorem cnan_any (w : World) (x : Int) : Calls Tryz.prog 100 #[.int .i64 x] w fun e w' => e = .returned (.bool false) ∧ Below w.heap.size w w' := by
  refine enter 6 Tryz.func100 (by kernel_rfl) fun hA => ?_
  refine runS hA 14 [] xn on (by kernel_rfl) fun w1 hA => ?_
  exact ret (v := .bool (x != x)) hA [] (by kernel_rfl) ⟨by simp, hA.below⟩
set_option maxRecDepth 20000 in
theorem snan_any (w : World) (x : Int) : Calls Tryz.prog 96 #[.int .i64 x] w fun e w' => e = .returned (.bool false) ∧ Below w.heap.size w w' := by
  refine enter 6 Tryz.func96 (by kernel_rfl) fun hA => ?_
  refine runS hA 14 [] xn on (by kernel_rfl) fun w1 hA => ?_
  exact ret (v := .bool (x != x)) hA [] (by kernel_rfl) ⟨by simp, hA.below⟩
set_option maxRecDepth 20000 in
theorem less_any (w : World) (x y : Int) : Calls Tryz.prog 95 #[.int .i64 x, .int .i64 y] w fun e w' => e = .returned (.bool (decide (x < y))) ∧ Below w.heap.size w w' := by
  refine enter 17 Tryz.func95 (by kernel_rfl) fun hA => ?_
  refine runS hA 8 [] xn on (by kernel_rfl) fun w1 hA => ?_
  refine callB hA [] on (cnan_any w1 x) (by kernel_rfl) fun w2 hb2 hA => ?_
  refine runS hA 14 [] xn on (by kernel_rfl) fun w3 hA => ?_
  exact ret (v := .bool (decide ((x : Int) < (y : Int)))) hA [] (by kernel_rfl) ⟨rfl, hA.below⟩
set_option maxRecDepth 20000 in
theorem search_any (w : World) (B : Nat) (A : Option Addr) (n c : Nat) (xs : List Int) (t : Int) (hx : IntsAt w B A n xs) (hB : B ≤ w.heap.size) (hn : n ≤ 1000000) (hinc : ∀ k m, k ≤ m → m < n → xs[k]?.getD 0 ≤ xs[m]?.getD 0) :
    Calls Tryz.prog 81 #[.slice A n c, .int .i64 t] w fun e w' => ∃ (i : Nat) (ok : Bool), e = .returned (.tuple #[.int .i64 (i : Int), .bool ok]) ∧ Below w.heap.size w w' ∧ i ≤ n ∧ (∀ k, k < i → xs[k]?.getD 0 < t) ∧ ∀ k, i ≤ k → k < n → t ≤ xs[k]?.getD 0 := by
  have hxl := hx.len
  refine enter 54 Tryz.func81 (by kernel_rfl) fun hA => ?_
  refine runS hA 22 [] xn on (by kernel_rfl) fun w1 hA => ?_
  refine loop (γ := Nat × Nat) (fun ⟨i, j⟩ => [(0, .slice A n c), (1, .int .i64 t), (4, .int .i64 0), (5, .bool false), (6, .int .i64 n), (7, .int .i64 (i : Int)), (8, .int .i64 (j : Int))]) (fun ⟨i, j⟩ => []) (fun _ => []) (fun g ⟨i, j⟩ wr => i ≤ j ∧ j ≤ n ∧ g = j - i ∧ (∀ k, k < i → xs[k]?.getD 0 < t) ∧ ∀ k, j ≤ k → k < n → t ≤ xs[k]?.getD 0) n ⟨0, n⟩ [] hA (by kernel_rfl) (⟨Nat.zero_le _, Nat.le_refl _, by simp, fun k hk => absurd hk (by omega), fun k h1 h2 => by omega⟩) ?_
  rintro _ ⟨i, j⟩ wr ⟨hij, hjn, rfl, hlo, hhi⟩ J hJ hA
  by_cases hlt : i < j
  case pos =>
    obtain ⟨m, hm⟩ : ∃ m, m = (i + j) / 2 := ⟨_, rfl⟩
    have hmi : i ≤ m ∧ m < j := by omega
    obtain ⟨b, off, rfl, hb, hc⟩ := hx.cell (k := m) (by omega)
    have hc' : b < w.heap.size ∧ w.cell? ⟨b, off + m * 1, none⟩ = some (.int .i64 (xs[m]?.getD 0)) := ⟨by omega, by simpa using hc⟩
    refine runS hA 21 [.b true] xn (oc (dec_t (show (((i : Int) : Int) < ((j : Int) : Int)) by omega)) on) (by kernel_rfl) fun w2 hA => ?_
    refine revals hA (rc 9 (show .int .i64 (IntKind.i64.wrap ((IntKind.u64.wrap (IntKind.i64.wrap ((i : Int) + (j : Int)))).fdiv (2 ^ 1))) = .int .i64 (m : Int) by rw [show IntKind.i64.wrap ((i : Int) + (j : Int)) = (i : Int) + (j : Int) by rw [IntKind.wrap_i64]; omega, show IntKind.u64.wrap ((i : Int) + (j : Int)) = (i : Int) + (j : Int) by rw [IntKind.wrap_u64]; omega, show ((i : Int) + (j : Int)).fdiv (2 ^ 1) = (m : Int) by rw [Int.fdiv_eq_ediv_of_nonneg _ (by decide)]; omega, show IntKind.i64.wrap (m : Int) = (m : Int) by rw [IntKind.wrap_i64]; omega]) rn) (by kernel_rfl) fun hA => ?_
    refine runS hA 9 [.i, .x (.int .i64 (xs[m]?.getD 0))] (xc (a := ⟨b, off + m * 1, none⟩) hc' xn) (oc (show (0 : Int) ≤ ((m : Int) : Int) ∧ ((m : Int) : Int) < (n : Int) by omega) on) (by kernel_rfl) fun w3 hA => ?_
    refine callB hA [] on (less_any w3 (xs[m]?.getD 0) t) (by kernel_rfl) fun w4 hb4 hA => ?_
    by_cases hl : xs[m]?.getD 0 < t
    case pos =>
      refine runS hA 9 [.b true] xn (oc (dec_t hl) on) (by kernel_rfl) fun w5 hA => ?_
      refine revals hA (rc 7 (wr64 (x := (m : Int) + 1) (y := ((m + 1 : Nat) : Int)) (by omega) (by omega)) rn) (by kernel_rfl) fun hA => ?_
      exact again hJ (j - (m + 1)) (⟨m + 1, j⟩) [] hA (by omega) (by kernel_rfl) ⟨by omega, hjn, rfl, fun k hk => Int.lt_of_le_of_lt (hinc k m (by omega) (by omega)) hl, hhi⟩
    case neg =>
      refine runS hA 8 [.b false] xn (oc (dec_f hl) on) (by kernel_rfl) fun w5 hA => ?_
      exact again hJ (m - i) (⟨i, m⟩) [] hA (by omega) (by kernel_rfl) ⟨by omega, by omega, rfl, hlo, fun k h1 h2 => Int.le_trans (by omega) (hinc m k (by omega) (by omega))⟩
  case neg =>
    have hie : i = j := by omega
    subst hie
    refine runS hA 11 [.b false] xn (oc (dec_f (show ¬ (((i : Int) : Int) < ((i : Int) : Int)) by omega)) on) (by kernel_rfl) fun w2 hA => ?_
    refine leave hA (by kernel_rfl) fun hA => ?_
    by_cases hin : i < n
    case neg =>
      refine runS hA 32 [.g false] xn (oc (dec_f (show ¬ ((i : Int) < (n : Int)) by omega)) on) (by kernel_rfl) fun w3 hA => ?_
      exact ret (v := .tuple #[.int .i64 (i : Int), .bool false]) hA [] (by kernel_rfl) ⟨_, _, rfl, hA.below, hjn, hlo, hhi⟩
    case pos =>
      obtain ⟨b, off, rfl, hb, hc⟩ := hx.cell hin
      have hc' : b < w.heap.size ∧ w.cell? ⟨b, off + i * 1, none⟩ = some (.int .i64 (xs[i]?.getD 0)) := ⟨by omega, by simpa using hc⟩
      by_cases he : xs[i]?.getD 0 = t
      case pos =>
        refine runS hA 32 ([.g true, .g true, .g true, .i, .g true, .x (.int .i64 (xs[i]?.getD 0))] ++ List.replicate 11 (.g true)) (xc (a := ⟨b, off + i * 1, none⟩) hc' xn) (oc (dec_t (show ((i : Int) < (n : Int)) by omega)) (oc (rfl : Value.bool true = .bool true) (oc (rfl : Value.bool true = .bool true) (oc (show (0 : Int) ≤ ((i : Int) : Int) ∧ ((i : Int) : Int) < (n : Int) by omega) (oc (rfl : Value.bool true = .bool true) (oc (rfl : Value.bool true = .bool true) (oc (rfl : Value.bool true = .bool true) (oc (rfl : Value.bool true = .bool true) (oc (eq_t he) (oc (rfl : Value.bool true = .bool true) (oc (rfl : Value.bool true = .bool true) (oc (rfl : Value.bool true = .bool true) (oc (rfl : Value.bool true = .bool true) (oc (rfl : Value.bool true = .bool true) (oc (rfl : Value.bool true = .bool true) (oc (rfl : Value.bool true = .bool true) on)))))))))))))))) (by kernel_rfl) fun w3 hA => ?_
        exact ret (v := .tuple #[.int .i64 (i : Int), .bool true]) hA [] (by kernel_rfl) ⟨_, _, rfl, hA.below, hjn, hlo, hhi⟩
      case neg =>
        refine runS hA 20 [.g true, .g true, .g true, .i, .g true, .x (.int .i64 (xs[i]?.getD 0)), .g true, .g true, .g true, .g false, .g false, .g false, .i, .g false, .x (.int .i64 (xs[i]?.getD 0))] (xc (a := ⟨b, off + i * 1, none⟩) hc' (xc (a := ⟨b, off + i * 1, none⟩) hc' xn)) (oc (dec_t (show ((i : Int) < (n : Int)) by omega)) (oc (rfl : Value.bool true = .bool true) (oc (rfl : Value.bool true = .bool true) (oc (show (0 : Int) ≤ ((i : Int) : Int) ∧ ((i : Int) : Int) < (n : Int) by omega) (oc (rfl : Value.bool true = .bool true) (oc (rfl : Value.bool true = .bool true) (oc (rfl : Value.bool true = .bool true) (oc (rfl : Value.bool true = .bool true) (oc (eq_f he) (oc (rfl : Value.bool false = .bool false) (oc (rfl : Value.bool false = .bool false) (oc (show (0 : Int) ≤ ((i : Int) : Int) ∧ ((i : Int) : Int) < (n : Int) by omega) (oc (rfl : Value.bool false = .bool false) on))))))))))))) (by kernel_rfl) fun w3 hA => ?_
        refine callB hA [] on (snan_any w3 (xs[i]?.getD 0)) (by kernel_rfl) fun w4 hb4 hA => ?_
        refine runS hA 11 (List.replicate 4 (.g false) ++ [.g true]) xn (oc (rfl : Value.bool false = .bool false) (oc (rfl : Value.bool false = .bool false) (oc (rfl : Value.bool false = .bool false) (oc (rfl : Value.bool false = .bool false) (oc (rfl : Value.bool true = .bool true) on))))) (by kernel_rfl) fun w5 hA => ?_
        exact ret (v := .tuple #[.int .i64 (i : Int), .bool false]) hA [] (by kernel_rfl) ⟨_, _, rfl, hA.below, hjn, hlo, hhi⟩
end Go.Proofs.YtbahiemjaomdcaaGreat
