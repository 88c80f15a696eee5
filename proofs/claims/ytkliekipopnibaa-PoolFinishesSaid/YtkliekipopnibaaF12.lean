/- Parts of a proof: VH VI VJ. -/
import Derived.Test.YtkliekipopnibaaF11

/- quinellalaw03: far; quinellaref03: CheckFinish. -/
namespace Go.Proofs.Ytkliekipopnibaa
open Go.RowKit Go.Shelf

theorem posF_get {x : Int} {xs : List Int} (h : x ∈ xs) : ∃ q, posF x xs = some q ∧ ∃ hq : q < xs.length, xs[q] = x := by
  unfold posF
  cases h1 : xs.findIdx? (fun y => y == x) with
  | none =>
    rw [List.findIdx?_eq_none_iff] at h1
    have := h1 x h
    simp at this
  | some q =>
    rw [List.findIdx?_eq_some_iff_getElem] at h1
    obtain ⟨hq, h2, -⟩ := h1
    exact ⟨q, rfl, hq, by simpa using h2⟩
theorem posF_out {x : Int} {xs : List Int} (h : x ∉ xs) : posF x xs = none := by
  unfold posF
  rw [List.findIdx?_eq_none_iff]
  intro y hy
  have : y ≠ x := fun e => h (e ▸ hy)
  simpa using this
theorem erase_mem {xs : List Int} (hn : xs.Nodup) {q : Nat} (hq : q < xs.length) (x : Int) : x ∈ xs.eraseIdx q ↔ x ∈ xs ∧ x ≠ xs[q] := by
  rw [List.mem_eraseIdx_iff_getElem]
  constructor
  · rintro ⟨i, hi, hne, rfl⟩
    exact ⟨List.getElem_mem _, fun e => hne ((List.getElem_inj hn).1 e)⟩
  · rintro ⟨hx, hne⟩
    obtain ⟨i, hi, rfl⟩ := List.getElem_of_mem hx
    exact ⟨i, hi, fun e => hne (by subst e; rfl), rfl⟩
theorem remF_step {co : List Int} {r : Int} (h : r ∈ co) (hn : co.Nodup) : ∃ c, (∀ rs, remF co (r :: rs) = remF c rs) ∧ c.Nodup ∧ (∀ x, x ∈ c ↔ x ∈ co ∧ x ≠ r) ∧ c.length + 1 = co.length := by
  obtain ⟨q, h1, hq, h2⟩ := posF_get h
  refine ⟨co.eraseIdx q, fun rs => by rw [remF, h1], hn.sublist (List.eraseIdx_sublist co q), fun x => by rw [erase_mem hn hq, h2], ?_⟩
  rw [List.length_eraseIdx, if_pos hq]
  omega
theorem remF_stop {co : List Int} {r : Int} (h : r ∉ co) (rs : List Int) : remF co (r :: rs) = none := by rw [remF, posF_out h]
theorem remF_append : ∀ (xs : List Int) (co ys : List Int), remF co (xs ++ ys) = (remF co xs).bind fun c => remF c ys
  | [], co, ys => rfl
  | x :: xs, co, ys => by
    rw [List.cons_append, remF, remF]
    cases posF x co with
    | none => rfl
    | some q => exact remF_append xs _ ys
theorem grpF_append : ∀ (fs : List (List Int)) (co : List Int) (gs : List (List Int)), grpF co (fs ++ gs) = (grpF co fs).bind fun c => grpF c gs
  | [], co, gs => rfl
  | F :: fs, co, gs => by
    rw [List.cons_append, grpF, grpF]
    split
    · rfl
    · cases remF co F with
      | none => rfl
      | some c => exact grpF_append fs c gs
theorem take_snoc {α : Type} {l : List α} {k : Nat} {d : α} (h : k < l.length) : l.take (k + 1) = l.take k ++ [l[k]?.getD d] := by
  rw [List.take_add_one, List.getElem?_eq_getElem h]
  rfl
theorem split_at {α : Type} {l : List α} {k : Nat} {d : α} (h : k < l.length) : l = l.take k ++ l[k]?.getD d :: l.drop (k + 1) := by
  rw [List.getElem?_eq_getElem h, Option.getD_some, ← List.drop_eq_getElem_cons h, List.take_append_drop]
/-- What is known when the groups below i have come in. -/
structure FinInv (b : Bk) (fs : List (List Int)) (i : Nat) (co : List Int) (all : Nat) : Prop where
  grp : grpF (racN b) (fs.take i) = some co
  nd : co.Nodup
  mem : ∀ x, x ∈ co ↔ x ∈ racN b ∧ ∀ j, j < i → x ∉ fs[j]?.getD []
  cnt : all + co.length = (racN b).length
/-- What is known when the first k of a group have come in. -/
structure GrpInv (b : Bk) (co F : List Int) (k : Nat) (c : List Int) (all : Nat) : Prop where
  rem : remF co (F.take k) = some c
  nd : c.Nodup
  mem : ∀ x, x ∈ c ↔ x ∈ co ∧ x ∉ F.take k
  cnt : all + c.length = (racN b).length
  inc : ∀ j, j + 1 < k → F[j]?.getD 0 < F[j + 1]?.getD 0
theorem racN_nodup (b : Bk) : (racN b).Nodup := by
  have key : ∀ k, (racL b k).Nodup := by
    intro k
    induction k with
    | zero => exact List.nodup_nil
    | succ k ih =>
      rw [racL, List.nodup_append]
      refine ⟨ih, by split <;> simp, fun a ha c hc e => ?_⟩
      have h1 := (racL_mem b).1 ha
      split at hc
      · cases hc
      · rw [List.mem_singleton.1 hc] at e; omega
  exact key _
theorem FinInv.zero (b : Bk) (fs : List (List Int)) : FinInv b fs 0 (racN b) 0 := ⟨rfl, racN_nodup b, fun x => ⟨fun h => ⟨h, fun j hj => absurd hj (Nat.not_lt_zero j)⟩, fun h => h.1⟩, by omega⟩
theorem FinInv.grp0 {b : Bk} {fs : List (List Int)} {i all : Nat} {co : List Int} (H : FinInv b fs i co all) (F : List Int) : GrpInv b co F 0 co all := ⟨rfl, H.nd, fun x => by simp, H.cnt, fun j hj => absurd hj (by omega)⟩
theorem GrpInv.step {b : Bk} {co F c : List Int} {k all : Nat} (G : GrpInv b co F k c all) (hk : k < F.length) (hm : F[k]?.getD 0 ∈ co) (hi : 0 < k → F[k - 1]?.getD 0 < F[k]?.getD 0) : ∃ c2, GrpInv b co F (k + 1) c2 (all + 1) := by
  have hc : F[k]?.getD 0 ∈ c := (G.mem _).2 ⟨hm, fun h => by
    obtain ⟨j, hj, e⟩ := List.getElem_of_mem h
    have hjk : j < k := by rw [List.length_take] at hj; omega
    rw [List.getElem_take] at e
    have key : ∀ d, j + d + 1 ≤ k → F[j]?.getD 0 < F[j + d + 1]?.getD 0 := by
      intro d
      induction d with
      | zero =>
        intro hd
        rcases Nat.lt_or_ge (j + 1) k with h1 | h1
        · exact G.inc j h1
        · have := hi (by omega); rw [show k - 1 = j by omega] at this; rw [show j + 0 + 1 = k by omega]; exact this
      | succ d ih =>
        intro hd
        have h1 := ih (by omega)
        have h2 : F[j + d + 1]?.getD 0 < F[j + d + 1 + 1]?.getD 0 := by
          rcases Nat.lt_or_ge (j + d + 1 + 1) k with h2 | h2
          · exact G.inc _ h2
          · have := hi (by omega); rw [show k - 1 = j + d + 1 by omega] at this; rw [show j + d + 1 + 1 = k by omega]; exact this
        exact Int.lt_trans h1 h2
    have := key (k - j - 1) (by omega)
    rw [show j + (k - j - 1) + 1 = k by omega, ← e, List.getElem?_eq_getElem (by omega), Option.getD_some] at this
    omega⟩
  obtain ⟨c2, h1, h2, h3, h4⟩ := remF_step hc G.nd
  refine ⟨c2, ?_, h2, fun x => ?_, by have := G.cnt; omega, fun j hj => ?_⟩
  · rw [take_snoc (d := 0) hk, remF_append, G.rem]
    exact h1 []
  · rw [h3, G.mem, take_snoc (d := 0) hk, List.mem_append, List.mem_singleton]
    exact ⟨fun h => ⟨h.1.1, fun h9 => h9.elim h.1.2 h.2⟩, fun h => ⟨⟨h.1, fun h9 => h.2 (.inl h9)⟩, fun h9 => h.2 (.inr h9)⟩⟩
  · rcases Nat.lt_or_ge (j + 1) k with h5 | h5
    · exact G.inc j h5
    · have := hi (by omega); rw [show k - 1 = j by omega] at this; rw [show j + 1 = k by omega]; exact this
theorem FinInv.step {b : Bk} {fs : List (List Int)} {i all a2 : Nat} {co c : List Int} (H : FinInv b fs i co all) (hi : i < fs.length) (G : GrpInv b co (fs[i]?.getD []) (fs[i]?.getD []).length c a2) (h0 : (fs[i]?.getD []).length ≠ 0) : FinInv b fs (i + 1) c a2 := by
  have hinc : incF (fs[i]?.getD []) = true := incF_true fun j hj => G.inc j hj
  have hr := G.rem
  have hmm := G.mem
  rw [List.take_length] at hr hmm
  refine ⟨?_, G.nd, fun x => ?_, G.cnt⟩
  · rw [take_snoc (d := []) hi, grpF_append, H.grp]
    show grpF co [fs[i]?.getD []] = _
    rw [grpF, if_neg (fun h => h.elim h0 (fun h => by rw [hinc] at h; cases h)), hr]
    rfl
  · rw [hmm, H.mem]
    constructor
    · rintro ⟨⟨h1, h2⟩, h3⟩
      refine ⟨h1, fun j hj => ?_⟩
      rcases Nat.lt_or_ge j i with h4 | h4
      · exact h2 j h4
      · rw [show j = i by omega]; exact h3
    · rintro ⟨h1, h2⟩
      exact ⟨⟨h1, fun j hj => h2 j (by omega)⟩, h2 i (by omega)⟩
theorem FinInv.bad {b : Bk} {fs : List (List Int)} {i all : Nat} {co : List Int} (H : FinInv b fs i co all) (hi : i < fs.length) (h : (fs[i]?.getD []).length = 0 ∨ incF (fs[i]?.getD []) = false ∨ remF co (fs[i]?.getD []) = none) : isFinF b fs = false := by
  unfold isFinF
  refine decide_eq_false fun e => ?_
  rw [split_at (d := []) hi, grpF_append, H.grp] at e
  rw [Option.bind_some, grpF] at e
  rcases h with h | h | h
  · rw [if_pos (.inl h)] at e; cases e
  · rw [if_pos (.inr h)] at e; cases e
  · rw [h] at e
    split at e <;> cases e
theorem GrpInv.out {b : Bk} {co F c : List Int} {k all : Nat} (G : GrpInv b co F k c all) (hk : k < F.length) (h : F[k]?.getD 0 ∉ co) : remF co F = none := by
  rw [split_at (d := 0) hk, remF_append, G.rem, Option.bind_some]
  exact remF_stop (fun hc => h ((G.mem _).1 hc).1) _
theorem inc_not {F : List Int} {k : Nat} (hk : k < F.length) (h0 : 0 < k) (h : F[k]?.getD 0 ≤ F[k - 1]?.getD 0) : incF F = false := by
  cases hc : incF F with
  | false => rfl
  | true =>
    unfold incF at hc
    rw [List.all_eq_true] at hc
    have := hc (k - 1) (List.mem_range.2 (by omega))
    simp only [decide_eq_true_eq] at this
    rw [show k - 1 + 1 = k by omega] at this
    omega
theorem FinInv.last {b : Bk} {fs : List (List Int)} {all : Nat} {co : List Int} (H : FinInv b fs fs.length co all) : isFinF b fs = decide (all = (racN b).length) := by
  have h := H.grp
  rw [List.take_length] at h
  unfold isFinF
  rw [h]
  have hc := H.cnt
  by_cases he : all = (racN b).length
  · rw [decide_eq_true he, decide_eq_true]
    rw [List.length_eq_zero_iff.1 (show co.length = 0 by omega)]
  · rw [decide_eq_false he, decide_eq_false]
    intro e
    cases e
    exact he (by simpa using hc)
set_option maxRecDepth 20000 in
theorem far_any (w : World) (B : Nat) (A3 : Option Addr) (nf cf : Nat) (fs : List (List Int)) (hf : FinAt w B A3 nf fs) (hB : B ≤ w.heap.size) : Calls Try.prog 23 #[.slice A3 nf cf] w fun e w' => ∃ t, e = .returned (.bool t) ∧ Below w.heap.size w w' := by
  have hfl := hf.1
  have hn9 := hf.2.1
  refine enter 22 Try.func23 (by kernel_rfl) fun hA => ?_
  refine runS hA 19 [] xn on (by kernel_rfl) fun w1 hA => ?_
  refine loop (γ := Nat × Int) (fun ⟨i, s⟩ => [(0, .slice A3 nf cf), (2, .bool false), (3, .int .i64 s), (4, .int .i64 (i : Int))]) (fun ⟨i, s⟩ => []) (fun _ => []) (fun g ⟨i, s⟩ wr => i ≤ nf ∧ g = nf - i) nf ⟨0, (nf : Int)⟩ [] hA (by kernel_rfl) (⟨Nat.zero_le _, rfl⟩) ?_
  rintro _ ⟨i, s⟩ wr ⟨hi, rfl⟩ J hJ hA
  by_cases hlt : i < nf
  case neg =>
    refine runS hA 12 [.b false] xn (oc (dec_f (show ¬ (((i : Int) : Int) < (nf : Int)) by omega)) on) (by kernel_rfl) fun w2 hA => ?_
    refine leave hA (by kernel_rfl) fun hA => ?_
    refine runS hA 10 [] xn on (by kernel_rfl) fun w3 hA => ?_
    exact ret (v := .bool (decide ((s : Int) > (40 : Int)))) hA [] (by kernel_rfl) ⟨_, rfl, hA.below⟩
  case pos =>
    obtain ⟨b0, off0, rfl, hb0, hc⟩ := hf.2.2 (by omega)
    obtain ⟨A', c', k1, k2, k3⟩ := hc i hlt
    have k1' : w.cell? ⟨b0, off0 + i * 1, none⟩ = some (.slice A' (fs[i]?.getD []).length c') := by simpa using k1
    refine runS hA 31 [.b true, .i, .x (.slice A' ((fs[i]?.getD []).length) c')] (xc (a := ⟨b0, off0 + i * 1, none⟩) ⟨Nat.lt_of_lt_of_le hb0 hB, k1'⟩ xn) (oc (dec_t (show (((i : Int) : Int) < (nf : Int)) by omega)) (oc (show (0 : Int) ≤ ((i : Int) : Int) ∧ ((i : Int) : Int) < (nf : Int) by omega) on)) (by kernel_rfl) fun w2 hA => ?_
    refine revals hA (rc 4 (wr64 (x := (i : Int) + 1) (y := ((i + 1 : Nat) : Int)) (by omega) (by omega)) rn) (by kernel_rfl) fun hA => ?_
    exact again hJ (nf - (i + 1)) (⟨i + 1, IntKind.i64.wrap (s + ((fs[i]?.getD []).length))⟩) [] hA (by omega) (by kernel_rfl) (⟨by omega, rfl⟩)
set_option maxHeartbeats 8000000 in
set_option maxRecDepth 20000 in
theorem rCheckFinish_any (w : World) (B : Nat) (b : Bk) (A : Option Addr) (n c : Nat) (A2 : Option Addr) (m c2 : Nat) (A3 : Option Addr) (nf cf : Nat) (fs : List (List Int)) (h : BkAt w B b A n c A2 m c2) (hf : FinAt w B A3 nf fs) (hB : B ≤ w.heap.size) : Calls Try.prog 27 #[bkV b A n c A2 m c2, .slice A3 nf cf] w fun e w' => e = .returned (.int .i64 (atF b fs)) ∧ Below w.heap.size w w' := by
  have hbl := h.bets.1
  have hxl := h.scr.1
  have hfl := hf.1
  have hn9 := hf.2.1
  refine enter 94 Try.func27 (by kernel_rfl) fun hA => ?_
  refine runS hA 10 (List.replicate 8 (.k 0)) xn on (by kernel_rfl) fun w1 hA => ?_
  refine callB hA [] on (rcheckBook_any w1 B b A n c A2 m c2 (h.below hA.below hB) (Nat.le_trans hB hA.size)) (by kernel_rfl) fun w2 hb2 hA => ?_
  by_cases h0 : bookF b = 0
  case neg =>
    refine runS hA 7 ([.b true] ++ List.replicate 8 (.k 0)) xn (oc (ne_t h0) on) (by kernel_rfl) fun w3 hA => ?_
    refine callB hA [] on (rcheckBook_any w3 B b A n c A2 m c2 (h.below hA.below hB) (Nat.le_trans hB hA.size)) (by kernel_rfl) fun w4 hb4 hA => ?_
    refine runS hA 5 [] xn on (by kernel_rfl) fun w5 hA => ?_
    exact ret (v := .int .i64 (bookF b)) hA [] (by kernel_rfl) ⟨by rw [show atF b fs = bookF b from if_neg h0], hA.below⟩
  case pos =>
    have V := valid_of h0
    have hv1 := V.run
    have hv3 := V.few
    have hrs := racL_scr V
    refine runS hA 18 [.b false] xn (oc (ne_f h0) on) (by kernel_rfl) fun w3 hA => ?_
    refine loop (γ := Nat × Nat × List Int) (fun ⟨i, al, co⟩ => [(1, .slice A3 nf cf), (2, .pointer (some ⟨w.heap.size, 0, none⟩)), (5, .int .i64 (al : Int)), (6, .int .i64 (i : Int))]) (fun ⟨i, al, co⟩ => [⟨w.heap.size, .cells #[.int .i64 b.kind, .int .i64 b.runners, .slice A n c, .slice A2 m c2, .bool b.fav, .int .i64 b.car, .int .i64 b.dut, .int .i64 b.stp] 25 (0, 0)⟩]) (fun _ => []) (fun g ⟨i, al, co⟩ wr => (i ≤ nf ∧ g = nf - i) ∧ FinInv b fs i co al) nf ⟨0, 0, racN b⟩ [true] hA (by kernel_rfl) (⟨⟨Nat.zero_le _, rfl⟩, FinInv.zero b fs⟩) ?_
    rintro _ ⟨i, al, co⟩ wr ⟨⟨hi, rfl⟩, HI⟩ J hJ hA
    by_cases hlt : i < nf
    case neg =>
      have hin : i = fs.length := by omega
      rw [hin] at HI
      have hlast := HI.last
      refine runS hA 12 [.b false] xn (oc (dec_f (show ¬ (((i : Int) : Int) < (nf : Int)) by omega)) on) (by kernel_rfl) fun w4 hA => ?_
      refine leave hA (by kernel_rfl) fun hA => ?_
      have hwr : IntKind.i64.wrap (b.runners - (m : Int)) = b.runners - (m : Int) := by rw [IntKind.wrap_i64]; omega
      by_cases hal : al = (racN b).length
      case pos =>
        refine runS hA 24 [.k 0, .k 0, .b false] xn (oc (ne_f (a := (al : Int)) (b := IntKind.i64.wrap (b.runners - (m : Int))) (by rw [hwr]; omega)) on) (by kernel_rfl) fun w5 hA => ?_
        exact ret (v := .int .i64 0) hA [] (by kernel_rfl) ⟨by rw [show atF b fs = 0 from (if_pos h0).trans (if_pos (by rw [hlast, decide_eq_true hal]))], hA.below⟩
      case neg =>
        refine runS hA 23 [.k 0, .k 0, .b true] xn (oc (ne_t (a := (al : Int)) (b := IntKind.i64.wrap (b.runners - (m : Int))) (by rw [hwr]; omega)) on) (by kernel_rfl) fun w5 hA => ?_
        exact ret (v := .int .i64 22) hA [] (by kernel_rfl) ⟨by rw [show atF b fs = 22 from (if_pos h0).trans (if_neg (by rw [hlast, decide_eq_false hal]; decide))], hA.below⟩
    case pos =>
      obtain ⟨b0, off0, rfl, hb0, hc⟩ := hf.2.2 (by omega)
      have hb9 : b0 < w.heap.size := Nat.lt_of_lt_of_le hb0 hB
      obtain ⟨A', c', k1, k2, k3⟩ := hc i hlt
      obtain ⟨F, hF⟩ : ∃ F, F = fs[i]?.getD [] := ⟨_, rfl⟩
      rw [← hF] at k1 k2 k3
      have k1' : w.cell? ⟨b0, off0 + i * 1, none⟩ = some (.slice A' F.length c') := by simpa using k1
      by_cases hF0 : F.length = 0
      case pos =>
        refine runS hA 35 [.b true, .i, .x (.slice A' F.length c'), .b true] (xc (a := ⟨b0, off0 + i * 1, none⟩) ⟨hb9, k1'⟩ xn) (oc (dec_t (show (((i : Int) : Int) < (nf : Int)) by omega)) (oc (show (0 : Int) ≤ ((i : Int) : Int) ∧ ((i : Int) : Int) < (nf : Int) by omega) (oc (eq_t (a := (F.length : Int)) (b := 0) (by omega)) on))) (by kernel_rfl) fun w4 hA => ?_
        refine leave hA (by kernel_rfl) fun hA => ?_
        refine runS hA 2 [] xn on (by kernel_rfl) fun w5 hA => ?_
        exact ret (v := .int .i64 22) hA [] (by kernel_rfl) ⟨by rw [show atF b fs = 22 from (if_pos h0).trans (if_neg (by rw [HI.bad (by omega) (.inl (by rw [← hF]; exact hF0))]; decide))], hA.below⟩
      case neg =>
        obtain ⟨b1, o1, rfl, hb1, hcc⟩ := k3.2.2 (by omega)
        have hb8 : b1 < w.heap.size := Nat.lt_of_lt_of_le hb1 hB
        have hn8 := k3.2.1
        have hcs : ∀ j, j < F.length → b1 < w.heap.size ∧ w.cell? ⟨b1, o1 + j * 1, none⟩ = some (.int .i64 (F[j]?.getD 0)) := fun j hj => ⟨hb8, by rw [Nat.mul_one]; exact hcc j hj⟩
        refine runS hA 34 [.b true, .i, .x (.slice (some ⟨b1, o1, none⟩) F.length c'), .b false] (xc (a := ⟨b0, off0 + i * 1, none⟩) ⟨hb9, k1'⟩ xn) (oc (dec_t (show (((i : Int) : Int) < (nf : Int)) by omega)) (oc (show (0 : Int) ≤ ((i : Int) : Int) ∧ ((i : Int) : Int) < (nf : Int) by omega) (oc (eq_f (a := (F.length : Int)) (b := 0) (by omega)) on))) (by kernel_rfl) fun w4 hA => ?_
        have hJ1 := hJ
        refine loop (γ := Nat × Nat × List Int) (fun ⟨k, al, c1⟩ => [(1, .slice (some ⟨b0, off0, none⟩) nf cf), (2, .pointer (some ⟨w.heap.size, 0, none⟩)), (5, .int .i64 (al : Int)), (6, .int .i64 (i : Int)), (7, .int .i64 (k : Int))]) (fun ⟨k, al, c1⟩ => [⟨w.heap.size, .cells #[.int .i64 b.kind, .int .i64 b.runners, .slice A n c, .slice A2 m c2, .bool b.fav, .int .i64 b.car, .int .i64 b.dut, .int .i64 b.stp] 25 (0, 0)⟩]) (fun _ => []) (fun g ⟨k, al, c1⟩ wt => (k ≤ F.length ∧ g = F.length - k) ∧ GrpInv b co F k c1 al) F.length ⟨0, al, co⟩ [true] hA (by kernel_rfl) (⟨⟨Nat.zero_le _, rfl⟩, HI.grp0 F⟩) ?_
        rintro _ ⟨k, al2, c1⟩ wt ⟨⟨hk, rfl⟩, HG⟩ J hJ hA
        by_cases hlk : k < F.length
        case neg =>
          refine runS hA 15 [.i, .x (.slice (some ⟨b1, o1, none⟩) F.length c'), .b false] (xc (a := ⟨b0, off0 + i * 1, none⟩) ⟨hb9, k1'⟩ xn) (oc (show (0 : Int) ≤ ((i : Int) : Int) ∧ ((i : Int) : Int) < (nf : Int) by omega) (oc (dec_f (show ¬ (((k : Int) : Int) < (F.length : Int)) by omega)) on)) (by kernel_rfl) fun w5 hA => ?_
          refine leave hA (by kernel_rfl) fun hA => ?_
          refine runS hA 8 [] xn on (by kernel_rfl) fun w6 hA => ?_
          have hkF : k = F.length := by omega
          rw [hkF, hF] at HG
          have HI2 := HI.step (by omega) HG (by rw [← hF]; exact hF0)
          refine revals hA (rc 6 (wr64 (x := (i : Int) + 1) (y := ((i + 1 : Nat) : Int)) (by omega) (by omega)) rn) (by kernel_rfl) fun hA => ?_
          exact again hJ1 (nf - (i + 1)) (⟨i + 1, al2, c1⟩) [true] hA (by omega) (by kernel_rfl) (⟨⟨by omega, rfl⟩, HI2⟩)
        case pos =>
          have hal2 : al2 ≤ 8 := by have := HG.cnt; omega
          obtain ⟨x, hx⟩ : ∃ x, x = F[k]?.getD 0 := ⟨_, rfl⟩
          have hck := hcs k hlk
          rw [← hx] at hck
          by_cases h1 : x < 0
          case pos =>
            refine runS hA 74 ([.i, .x (.slice (some ⟨b1, o1, none⟩) F.length c'), .b true, .i, .x (.slice (some ⟨b1, o1, none⟩) F.length c'), .i, .x (.int .i64 x)] ++ List.replicate 12 (.g true)) (xc (a := ⟨b0, off0 + i * 1, none⟩) ⟨hb9, k1'⟩ (xc (a := ⟨b0, off0 + i * 1, none⟩) ⟨hb9, k1'⟩ (xc (a := ⟨b1, o1 + k * 1, none⟩) hck xn))) (oc (show (0 : Int) ≤ ((i : Int) : Int) ∧ ((i : Int) : Int) < (nf : Int) by omega) (oc (dec_t (show (((k : Int) : Int) < (F.length : Int)) by omega)) (oc (show (0 : Int) ≤ ((i : Int) : Int) ∧ ((i : Int) : Int) < (nf : Int) by omega) (oc (show (0 : Int) ≤ ((k : Int) : Int) ∧ ((k : Int) : Int) < (F.length : Int) by omega) (oc (dec_t (show ((x : Int) < (0 : Int)) by omega)) (oc (rfl : Value.bool true = .bool true) (oc (rfl : Value.bool true = .bool true) (oc (rfl : Value.bool true = .bool true) (oc (rfl : Value.bool true = .bool true) (oc (rfl : Value.bool true = .bool true) (oc (rfl : Value.bool true = .bool true) (oc (rfl : Value.bool true = .bool true) (oc (rfl : Value.bool true = .bool true) (oc (rfl : Value.bool true = .bool true) (oc (rfl : Value.bool true = .bool true) (oc (rfl : Value.bool true = .bool true) on)))))))))))))))) (by kernel_rfl) fun w5 hA => ?_
            refine leave hA (by kernel_rfl) fun hA => ?_
            refine runS hA 3 [] xn on (by kernel_rfl) fun w6 hA => ?_
            refine leave hA (by kernel_rfl) fun hA => ?_
            refine runS hA 2 [] xn on (by kernel_rfl) fun w7 hA => ?_
            exact ret (v := .int .i64 22) hA [] (by kernel_rfl) ⟨by rw [show atF b fs = 22 from (if_pos h0).trans (if_neg (by rw [HI.bad (by omega) (.inr (.inr (by rw [← hF]; exact HG.out (by omega) (by rw [← hx]; exact fun hm => by have := (racL_mem b).1 ((HI.mem _).1 hm).1; omega))))]; decide))], hA.below⟩
          case neg =>
            by_cases h2 : x ≥ b.runners
            case pos =>
              refine runS hA 74 ([.i, .x (.slice (some ⟨b1, o1, none⟩) F.length c'), .b true, .i, .x (.slice (some ⟨b1, o1, none⟩) F.length c'), .i, .x (.int .i64 x), .g false, .g false, .g false, .k 0, .g false] ++ List.replicate 8 (.g true)) (xc (a := ⟨b0, off0 + i * 1, none⟩) ⟨hb9, k1'⟩ (xc (a := ⟨b0, off0 + i * 1, none⟩) ⟨hb9, k1'⟩ (xc (a := ⟨b1, o1 + k * 1, none⟩) hck xn))) (oc (show (0 : Int) ≤ ((i : Int) : Int) ∧ ((i : Int) : Int) < (nf : Int) by omega) (oc (dec_t (show (((k : Int) : Int) < (F.length : Int)) by omega)) (oc (show (0 : Int) ≤ ((i : Int) : Int) ∧ ((i : Int) : Int) < (nf : Int) by omega) (oc (show (0 : Int) ≤ ((k : Int) : Int) ∧ ((k : Int) : Int) < (F.length : Int) by omega) (oc (dec_f (show ¬ ((x : Int) < (0 : Int)) by omega)) (oc (rfl : Value.bool false = .bool false) (oc (rfl : Value.bool false = .bool false) (oc (rfl : Value.bool false = .bool false) (oc (dec_t (show ((x : Int) ≥ (b.runners : Int)) by omega)) (oc (rfl : Value.bool true = .bool true) (oc (rfl : Value.bool true = .bool true) (oc (rfl : Value.bool true = .bool true) (oc (rfl : Value.bool true = .bool true) (oc (rfl : Value.bool true = .bool true) (oc (rfl : Value.bool true = .bool true) (oc (rfl : Value.bool true = .bool true) on)))))))))))))))) (by kernel_rfl) fun w5 hA => ?_
              refine leave hA (by kernel_rfl) fun hA => ?_
              refine runS hA 3 [] xn on (by kernel_rfl) fun w6 hA => ?_
              refine leave hA (by kernel_rfl) fun hA => ?_
              refine runS hA 2 [] xn on (by kernel_rfl) fun w7 hA => ?_
              exact ret (v := .int .i64 22) hA [] (by kernel_rfl) ⟨by rw [show atF b fs = 22 from (if_pos h0).trans (if_neg (by rw [HI.bad (by omega) (.inr (.inr (by rw [← hF]; exact HG.out (by omega) (by rw [← hx]; exact fun hm => by have := (racL_mem b).1 ((HI.mem _).1 hm).1; omega))))]; decide))], hA.below⟩
            case neg =>
              refine runS hA 44 [.i, .x (.slice (some ⟨b1, o1, none⟩) F.length c'), .b true, .i, .x (.slice (some ⟨b1, o1, none⟩) F.length c'), .i, .x (.int .i64 x), .g false, .g false, .g false, .k 0, .g false, .g false, .g false, .k 0, .g false] (xc (a := ⟨b0, off0 + i * 1, none⟩) ⟨hb9, k1'⟩ (xc (a := ⟨b0, off0 + i * 1, none⟩) ⟨hb9, k1'⟩ (xc (a := ⟨b1, o1 + k * 1, none⟩) hck xn))) (oc (show (0 : Int) ≤ ((i : Int) : Int) ∧ ((i : Int) : Int) < (nf : Int) by omega) (oc (dec_t (show (((k : Int) : Int) < (F.length : Int)) by omega)) (oc (show (0 : Int) ≤ ((i : Int) : Int) ∧ ((i : Int) : Int) < (nf : Int) by omega) (oc (show (0 : Int) ≤ ((k : Int) : Int) ∧ ((k : Int) : Int) < (F.length : Int) by omega) (oc (dec_f (show ¬ ((x : Int) < (0 : Int)) by omega)) (oc (rfl : Value.bool false = .bool false) (oc (rfl : Value.bool false = .bool false) (oc (rfl : Value.bool false = .bool false) (oc (dec_f (show ¬ ((x : Int) ≥ (b.runners : Int)) by omega)) (oc (rfl : Value.bool false = .bool false) (oc (rfl : Value.bool false = .bool false) on))))))))))) (by kernel_rfl) fun w5 hA => ?_
              refine callB hA [] on (has_any w5 B A2 m c2 b.scr x (h.scr.below hA.below hB) (Nat.le_trans hB hA.size)) (by kernel_rfl) fun w6 hb6 hA => ?_
              by_cases h3 : x ∈ b.scr
              case pos =>
                refine revals hA (rc 55 (show .bool (decide (x ∈ b.scr)) = .bool true by rw [decide_eq_true h3]) rn) (by kernel_rfl) fun hA => ?_
                refine runS hA 29 (List.replicate 4 (.g true)) xn (oc (rfl : Value.bool true = .bool true) (oc (rfl : Value.bool true = .bool true) (oc (rfl : Value.bool true = .bool true) (oc (rfl : Value.bool true = .bool true) on)))) (by kernel_rfl) fun w7 hA => ?_
                refine leave hA (by kernel_rfl) fun hA => ?_
                refine runS hA 3 [] xn on (by kernel_rfl) fun w8 hA => ?_
                refine leave hA (by kernel_rfl) fun hA => ?_
                refine runS hA 2 [] xn on (by kernel_rfl) fun w9 hA => ?_
                exact ret (v := .int .i64 22) hA [] (by kernel_rfl) ⟨by rw [show atF b fs = 22 from (if_pos h0).trans (if_neg (by rw [HI.bad (by omega) (.inr (.inr (by rw [← hF]; exact HG.out (by omega) (by rw [← hx]; exact fun hm => ((racL_mem b).1 ((HI.mem _).1 hm).1).2 h3))))]; decide))], hA.below⟩
              case neg =>
                refine revals hA (rc 55 (show .bool (decide (x ∈ b.scr)) = .bool false by rw [decide_eq_false h3]) rn) (by kernel_rfl) fun hA => ?_
                by_cases h4 : 0 < k
                case neg =>
                  refine runS hA 29 (List.replicate 14 (.g false)) xn (oc (rfl : Value.bool false = .bool false) (oc (rfl : Value.bool false = .bool false) (oc (rfl : Value.bool false = .bool false) (oc (dec_f (show ¬ (((k : Int) : Int) > (0 : Int)) by omega)) (oc (rfl : Value.bool false = .bool false) (oc (rfl : Value.bool false = .bool false) (oc (rfl : Value.bool false = .bool false) (oc (rfl : Value.bool false = .bool false) (oc (rfl : Value.bool false = .bool false) (oc (rfl : Value.bool false = .bool false) (oc (rfl : Value.bool false = .bool false) (oc (rfl : Value.bool false = .bool false) (oc (rfl : Value.bool false = .bool false) (oc (rfl : Value.bool false = .bool false) on)))))))))))))) (by kernel_rfl) fun w7 hA => ?_
                  have hJ2 := hJ
                  refine loop (γ := Nat) (fun j => [(1, .slice (some ⟨b0, off0, none⟩) nf cf), (2, .pointer (some ⟨w.heap.size, 0, none⟩)), (5, .int .i64 (al2 : Int)), (6, .int .i64 (i : Int)), (7, .int .i64 (k : Int)), (8, .int .i64 x), (9, .int .i64 (j : Int))]) (fun j => [⟨w.heap.size, .cells #[.int .i64 b.kind, .int .i64 b.runners, .slice A n c, .slice A2 m c2, .bool b.fav, .int .i64 b.car, .int .i64 b.dut, .int .i64 b.stp] 25 (0, 0)⟩]) (fun _ => []) (fun g j wu => (j ≤ i ∧ g = i - j) ∧ ∀ q, q < j → x ∉ fs[q]?.getD []) i 0 [true] hA (by kernel_rfl) (⟨⟨Nat.zero_le _, rfl⟩, fun q hq => absurd hq (Nat.not_lt_zero q)⟩) ?_
                  rintro _ j wu ⟨⟨hj, rfl⟩, hno⟩ J hJ hA
                  by_cases hlj : j < i
                  case neg =>
                    refine runS hA 11 [.b false] xn (oc (dec_f (show ¬ (((j : Int) : Int) < ((i : Int) : Int)) by omega)) on) (by kernel_rfl) fun w8 hA => ?_
                    refine leave hA (by kernel_rfl) fun hA => ?_
                    refine runS hA 14 [] xn on (by kernel_rfl) fun w9 hA => ?_
                    have hmx : x ∈ co := (HI.mem x).2 ⟨(racL_mem b).2 ⟨⟨by omega, by omega⟩, h3⟩, fun q hq => hno q (by omega)⟩
                    obtain ⟨c2', HG2⟩ := HG.step hlk (by rw [← hx]; exact hmx) (fun h9 => absurd h9 h4)
                    refine revals hA (rc 5 (wr64 (x := (al2 : Int) + 1) (y := ((al2 + 1 : Nat) : Int)) (by omega) (by omega)) (rc 7 (wr64 (x := (k : Int) + 1) (y := ((k + 1 : Nat) : Int)) (by omega) (by omega)) rn)) (by kernel_rfl) fun hA => ?_
                    exact again hJ2 (F.length - (k + 1)) (⟨k + 1, al2 + 1, c2'⟩) [true] hA (by omega) (by kernel_rfl) (⟨⟨by omega, rfl⟩, HG2⟩)
                  case pos =>
                    obtain ⟨Aj, cj, j1, j2, j3⟩ := hc j (by omega)
                    have j1' : w.cell? ⟨b0, off0 + j * 1, none⟩ = some (.slice Aj (fs[j]?.getD []).length cj) := by simpa using j1
                    refine runS hA 20 [.b true, .i, .x (.slice Aj ((fs[j]?.getD []).length) cj)] (xc (a := ⟨b0, off0 + j * 1, none⟩) ⟨hb9, j1'⟩ xn) (oc (dec_t (show (((j : Int) : Int) < ((i : Int) : Int)) by omega)) (oc (show (0 : Int) ≤ ((j : Int) : Int) ∧ ((j : Int) : Int) < (nf : Int) by omega) on)) (by kernel_rfl) fun w8 hA => ?_
                    refine callB hA [] on (has_any w8 B Aj (fs[j]?.getD []).length cj (fs[j]?.getD []) x (j3.below hA.below hB) (Nat.le_trans hB hA.size)) (by kernel_rfl) fun w9 hb9 hA => ?_
                    by_cases h5 : x ∈ fs[j]?.getD []
                    case pos =>
                      refine revals hA (rc 83 (show .bool (decide (x ∈ fs[j]?.getD [])) = .bool true by rw [decide_eq_true h5]) rn) (by kernel_rfl) fun hA => ?_
                      refine runS hA 11 [] xn on (by kernel_rfl) fun w10 hA => ?_
                      refine leave hA (by kernel_rfl) fun hA => ?_
                      refine runS hA 4 [] xn on (by kernel_rfl) fun w11 hA => ?_
                      refine leave hA (by kernel_rfl) fun hA => ?_
                      refine runS hA 3 [] xn on (by kernel_rfl) fun w12 hA => ?_
                      refine leave hA (by kernel_rfl) fun hA => ?_
                      refine runS hA 2 [] xn on (by kernel_rfl) fun w13 hA => ?_
                      exact ret (v := .int .i64 22) hA [] (by kernel_rfl) ⟨by rw [show atF b fs = 22 from (if_pos h0).trans (if_neg (by rw [HI.bad (by omega) (.inr (.inr (by rw [← hF]; exact HG.out (by omega) (by rw [← hx]; exact fun hm => ((HI.mem _).1 hm).2 j hlj h5))))]; decide))], hA.below⟩
                    case neg =>
                      refine revals hA (rc 83 (show .bool (decide (x ∈ fs[j]?.getD [])) = .bool false by rw [decide_eq_false h5]) rn) (by kernel_rfl) fun hA => ?_
                      refine runS hA 11 [] xn on (by kernel_rfl) fun w10 hA => ?_
                      refine revals hA (rc 9 (wr64 (x := (j : Int) + 1) (y := ((j + 1 : Nat) : Int)) (by omega) (by omega)) rn) (by kernel_rfl) fun hA => ?_
                      exact again hJ (i - (j + 1)) (j + 1) [true] hA (by omega) (by kernel_rfl) (⟨⟨by omega, rfl⟩, fun q hq => by by_cases hqj : q = j; rw [hqj]; exact h5; exact hno q (by omega)⟩)
                case pos =>
                  refine runS hA 12 ([.g false, .g false, .g false] ++ List.replicate 4 (.g true) ++ [.i, .g true, .x (.slice (some ⟨b1, o1, none⟩) F.length c'), .g true, .g true]) (xc (a := ⟨b0, off0 + i * 1, none⟩) ⟨hb9, k1'⟩ xn) (oc (rfl : Value.bool false = .bool false) (oc (rfl : Value.bool false = .bool false) (oc (rfl : Value.bool false = .bool false) (oc (dec_t (show (((k : Int) : Int) > (0 : Int)) by omega)) (oc (rfl : Value.bool true = .bool true) (oc (rfl : Value.bool true = .bool true) (oc (rfl : Value.bool true = .bool true) (oc (show (0 : Int) ≤ ((i : Int) : Int) ∧ ((i : Int) : Int) < (nf : Int) by omega) (oc (rfl : Value.bool true = .bool true) (oc (rfl : Value.bool true = .bool true) (oc (rfl : Value.bool true = .bool true) on))))))))))) (by kernel_rfl) fun w7 hA => ?_
                  refine revals hA (rc 67 (wr64 (x := (k : Int) - 1) (y := ((k - 1 : Nat) : Int)) (by omega) (by omega)) rn) (by kernel_rfl) fun hA => ?_
                  by_cases h6 : x ≤ (F[k - 1]?.getD 0)
                  case pos =>
                    refine runS hA 17 [.g true, .i, .g true, .x (.int .i64 (F[k - 1]?.getD 0)), .g true, .g false, .b true] (xc (a := ⟨b1, o1 + (k - 1) * 1, none⟩) (hcs (k - 1) (by omega)) xn) (oc (rfl : Value.bool true = .bool true) (oc (show (0 : Int) ≤ (((k - 1 : Nat) : Int) : Int) ∧ (((k - 1 : Nat) : Int) : Int) < (F.length : Int) by omega) (oc (rfl : Value.bool true = .bool true) (oc (rfl : Value.bool true = .bool true) (oc (rfl : Value.bool false = .bool false) (oc (dec_t (show ((x : Int) ≤ ((F[k - 1]?.getD 0) : Int)) by omega)) on)))))) (by kernel_rfl) fun w8 hA => ?_
                    refine leave hA (by kernel_rfl) fun hA => ?_
                    refine runS hA 3 [] xn on (by kernel_rfl) fun w9 hA => ?_
                    refine leave hA (by kernel_rfl) fun hA => ?_
                    refine runS hA 2 [] xn on (by kernel_rfl) fun w10 hA => ?_
                    exact ret (v := .int .i64 22) hA [] (by kernel_rfl) ⟨by rw [show atF b fs = 22 from (if_pos h0).trans (if_neg (by rw [HI.bad (by omega) (.inr (.inl (by rw [← hF]; exact inc_not hlk h4 (by rw [← hx]; exact h6))))]; decide))], hA.below⟩
                  case neg =>
                    refine runS hA 17 [.g true, .i, .g true, .x (.int .i64 (F[k - 1]?.getD 0)), .g true, .g false, .b false] (xc (a := ⟨b1, o1 + (k - 1) * 1, none⟩) (hcs (k - 1) (by omega)) xn) (oc (rfl : Value.bool true = .bool true) (oc (show (0 : Int) ≤ (((k - 1 : Nat) : Int) : Int) ∧ (((k - 1 : Nat) : Int) : Int) < (F.length : Int) by omega) (oc (rfl : Value.bool true = .bool true) (oc (rfl : Value.bool true = .bool true) (oc (rfl : Value.bool false = .bool false) (oc (dec_f (show ¬ ((x : Int) ≤ ((F[k - 1]?.getD 0) : Int)) by omega)) on)))))) (by kernel_rfl) fun w8 hA => ?_
                    have hJ2 := hJ
                    refine loop (γ := Nat) (fun j => [(1, .slice (some ⟨b0, off0, none⟩) nf cf), (2, .pointer (some ⟨w.heap.size, 0, none⟩)), (5, .int .i64 (al2 : Int)), (6, .int .i64 (i : Int)), (7, .int .i64 (k : Int)), (8, .int .i64 x), (9, .int .i64 (j : Int))]) (fun j => [⟨w.heap.size, .cells #[.int .i64 b.kind, .int .i64 b.runners, .slice A n c, .slice A2 m c2, .bool b.fav, .int .i64 b.car, .int .i64 b.dut, .int .i64 b.stp] 25 (0, 0)⟩]) (fun _ => []) (fun g j wu => (j ≤ i ∧ g = i - j) ∧ ∀ q, q < j → x ∉ fs[q]?.getD []) i 0 [true] hA (by kernel_rfl) (⟨⟨Nat.zero_le _, rfl⟩, fun q hq => absurd hq (Nat.not_lt_zero q)⟩) ?_
                    rintro _ j wu ⟨⟨hj, rfl⟩, hno⟩ J hJ hA
                    by_cases hlj : j < i
                    case neg =>
                      refine runS hA 11 [.b false] xn (oc (dec_f (show ¬ (((j : Int) : Int) < ((i : Int) : Int)) by omega)) on) (by kernel_rfl) fun w9 hA => ?_
                      refine leave hA (by kernel_rfl) fun hA => ?_
                      refine runS hA 14 [] xn on (by kernel_rfl) fun w10 hA => ?_
                      have hmx : x ∈ co := (HI.mem x).2 ⟨(racL_mem b).2 ⟨⟨by omega, by omega⟩, h3⟩, fun q hq => hno q (by omega)⟩
                      obtain ⟨c2', HG2⟩ := HG.step hlk (by rw [← hx]; exact hmx) (fun _ => by rw [← hx]; omega)
                      refine revals hA (rc 5 (wr64 (x := (al2 : Int) + 1) (y := ((al2 + 1 : Nat) : Int)) (by omega) (by omega)) (rc 7 (wr64 (x := (k : Int) + 1) (y := ((k + 1 : Nat) : Int)) (by omega) (by omega)) rn)) (by kernel_rfl) fun hA => ?_
                      exact again hJ2 (F.length - (k + 1)) (⟨k + 1, al2 + 1, c2'⟩) [true] hA (by omega) (by kernel_rfl) (⟨⟨by omega, rfl⟩, HG2⟩)
                    case pos =>
                      obtain ⟨Aj, cj, j1, j2, j3⟩ := hc j (by omega)
                      have j1' : w.cell? ⟨b0, off0 + j * 1, none⟩ = some (.slice Aj (fs[j]?.getD []).length cj) := by simpa using j1
                      refine runS hA 20 [.b true, .i, .x (.slice Aj ((fs[j]?.getD []).length) cj)] (xc (a := ⟨b0, off0 + j * 1, none⟩) ⟨hb9, j1'⟩ xn) (oc (dec_t (show (((j : Int) : Int) < ((i : Int) : Int)) by omega)) (oc (show (0 : Int) ≤ ((j : Int) : Int) ∧ ((j : Int) : Int) < (nf : Int) by omega) on)) (by kernel_rfl) fun w9 hA => ?_
                      refine callB hA [] on (has_any w9 B Aj (fs[j]?.getD []).length cj (fs[j]?.getD []) x (j3.below hA.below hB) (Nat.le_trans hB hA.size)) (by kernel_rfl) fun w10 hb10 hA => ?_
                      by_cases h5 : x ∈ fs[j]?.getD []
                      case pos =>
                        refine revals hA (rc 83 (show .bool (decide (x ∈ fs[j]?.getD [])) = .bool true by rw [decide_eq_true h5]) rn) (by kernel_rfl) fun hA => ?_
                        refine runS hA 11 [] xn on (by kernel_rfl) fun w11 hA => ?_
                        refine leave hA (by kernel_rfl) fun hA => ?_
                        refine runS hA 4 [] xn on (by kernel_rfl) fun w12 hA => ?_
                        refine leave hA (by kernel_rfl) fun hA => ?_
                        refine runS hA 3 [] xn on (by kernel_rfl) fun w13 hA => ?_
                        refine leave hA (by kernel_rfl) fun hA => ?_
                        refine runS hA 2 [] xn on (by kernel_rfl) fun w14 hA => ?_
                        exact ret (v := .int .i64 22) hA [] (by kernel_rfl) ⟨by rw [show atF b fs = 22 from (if_pos h0).trans (if_neg (by rw [HI.bad (by omega) (.inr (.inr (by rw [← hF]; exact HG.out (by omega) (by rw [← hx]; exact fun hm => ((HI.mem _).1 hm).2 j hlj h5))))]; decide))], hA.below⟩
                      case neg =>
                        refine revals hA (rc 83 (show .bool (decide (x ∈ fs[j]?.getD [])) = .bool false by rw [decide_eq_false h5]) rn) (by kernel_rfl) fun hA => ?_
                        refine runS hA 11 [] xn on (by kernel_rfl) fun w11 hA => ?_
                        refine revals hA (rc 9 (wr64 (x := (j : Int) + 1) (y := ((j + 1 : Nat) : Int)) (by omega) (by omega)) rn) (by kernel_rfl) fun hA => ?_
                        exact again hJ (i - (j + 1)) (j + 1) [true] hA (by omega) (by kernel_rfl) (⟨⟨by omega, rfl⟩, fun q hq => by by_cases hqj : q = j; rw [hqj]; exact h5; exact hno q (by omega)⟩)
end Go.Proofs.Ytkliekipopnibaa

/- quinellaref03: isWinner. -/
namespace Go.Proofs.Ytkliekipopnibaa
open Go.RowKit Go.Shelf

/-- Whether a pair wins. -/
def winB (b : Bk) (fs : List (List Int)) (x y : Int) : Bool :=
  if b.kind = 0 then decide (y = -1) && decide (x ∈ fs[0]?.getD [])
  else if b.kind = 1 then decide (y = -1) && (decide (x ∈ fs[0]?.getD []) || (decide ((fs[0]?.getD []).length = 1) && decide (x ∈ fs[1]?.getD [])))
  else if b.kind = 2 then decide (x ≠ y) && decide (x ∈ fs[0]?.getD []) && (if (fs[0]?.getD []).length = 1 then decide (y ∈ fs[1]?.getD []) else decide (y ∈ fs[0]?.getD []))
  else decide (x < y) && (if (fs[0]?.getD []).length = 1 then decide (x ∈ fs[0]?.getD []) && decide (y ∈ fs[1]?.getD []) || decide (y ∈ fs[0]?.getD []) && decide (x ∈ fs[1]?.getD []) else decide (x ∈ fs[0]?.getD []) && decide (y ∈ fs[0]?.getD []))
set_option linter.unusedSimpArgs false in
set_option maxHeartbeats 4000000 in
set_option maxRecDepth 20000 in
theorem isWinner_any (w : World) (B : Nat) (b : Bk) (A : Option Addr) (n c : Nat) (A2 : Option Addr) (m c2 : Nat) (A3 : Option Addr) (nf cf : Nat) (fs : List (List Int)) (x y : Int) (hf : FinAt w B A3 nf fs) (hB : B ≤ w.heap.size) (K : FinOk b fs) : Calls Try.prog 90 #[bkV b A n c A2 m c2, .slice A3 nf cf, .int .i64 x, .int .i64 y] w fun e w' => e = .returned (.bool (winB b fs x y)) ∧ Below w.heap.size w w' := by
  have hfl := hf.1
  have hn9 := hf.2.1
  have hp0 := K.pos
  have hp1 := K.one
  obtain ⟨b0, off0, rfl, hb0, hc⟩ := hf.2.2 (by omega)
  have hb9 : b0 < w.heap.size := Nat.lt_of_lt_of_le hb0 hB
  obtain ⟨A0, c0, k1, k2, k3⟩ := hc 0 (by omega)
  have k1' : w.cell? ⟨b0, off0 + 0 * 1, none⟩ = some (.slice A0 (fs[0]?.getD []).length c0) := by simpa using k1
  refine enter 130 Try.func90 (by kernel_rfl) fun hA => ?_
  refine runS hA 14 [.i, .x (.slice A0 ((fs[0]?.getD []).length) c0)] (xc (a := ⟨b0, off0, none⟩) ⟨hb9, k1'⟩ xn) (oc (show (0 : Int) ≤ (0 : Int) ∧ (0 : Int) < (nf : Int) by omega) on) (by kernel_rfl) fun w1 hA => ?_
  by_cases ha : (fs[0]?.getD []).length = 1
  case pos =>
    refine revals hA (rc 9 (eq_t (a := ((fs[0]?.getD []).length : Int)) (b := 1) (by omega)) rn) (by kernel_rfl) fun hA => ?_
    obtain ⟨hp2, hp3⟩ := hp1 ha
    obtain ⟨A1, c1, l1, l2, l3⟩ := hc 1 (by omega)
    have l1' : w.cell? ⟨b0, off0 + 1 * 1, none⟩ = some (.slice A1 (fs[1]?.getD []).length c1) := by simpa using l1
    by_cases hk0 : b.kind = 0
    case pos =>
      refine runS hA 21 [.k 0, .b true] xn (oc (eq_t hk0) on) (by kernel_rfl) fun w2 hA => ?_
      by_cases hy : y = -1
      case pos =>
        refine revals hA (rc 22 (eq_t hy) rn) (by kernel_rfl) fun hA => ?_
        refine runS hA 5 [.g true, .g true, .i, .g true, .x (.slice A0 ((fs[0]?.getD []).length) c0), .g true] (xc (a := ⟨b0, off0, none⟩) ⟨hb9, k1'⟩ xn) (oc (rfl : Value.bool true = .bool true) (oc (rfl : Value.bool true = .bool true) (oc (show (0 : Int) ≤ (0 : Int) ∧ (0 : Int) < (nf : Int) by omega) (oc (rfl : Value.bool true = .bool true) (oc (rfl : Value.bool true = .bool true) on))))) (by kernel_rfl) fun w3 hA => ?_
        refine callB hA [] on (has_any w3 B A0 (fs[0]?.getD []).length c0 (fs[0]?.getD []) x (k3.below hA.below hB) (Nat.le_trans hB hA.size)) (by kernel_rfl) fun w4 hb4 hA => ?_
        by_cases hx0 : x ∈ (fs[0]?.getD [])
        case pos =>
          refine revals hA (rc 28 (show .bool (decide (x ∈ (fs[0]?.getD []))) = .bool true by rw [decide_eq_true hx0]) rn) (by kernel_rfl) fun hA => ?_
          refine runS hA 7 [] xn on (by kernel_rfl) fun w5 hA => ?_
          exact ret (v := .bool true) hA [] (by kernel_rfl) ⟨by rw [show winB b fs x y = true by simp [winB, ha, hk0, hy, hx0]], hA.below⟩
        case neg =>
          refine revals hA (rc 28 (show .bool (decide (x ∈ (fs[0]?.getD []))) = .bool false by rw [decide_eq_false hx0]) rn) (by kernel_rfl) fun hA => ?_
          refine runS hA 7 [] xn on (by kernel_rfl) fun w5 hA => ?_
          exact ret (v := .bool false) hA [] (by kernel_rfl) ⟨by rw [show winB b fs x y = false by simp [winB, ha, hk0, hy, hx0]], hA.below⟩
      case neg =>
        refine revals hA (rc 22 (eq_f hy) rn) (by kernel_rfl) fun hA => ?_
        refine runS hA 13 (List.replicate 5 (.g false)) xn (oc (rfl : Value.bool false = .bool false) (oc (rfl : Value.bool false = .bool false) (oc (rfl : Value.bool false = .bool false) (oc (rfl : Value.bool false = .bool false) (oc (rfl : Value.bool false = .bool false) on))))) (by kernel_rfl) fun w3 hA => ?_
        exact ret (v := .bool false) hA [] (by kernel_rfl) ⟨by rw [show winB b fs x y = false by simp [winB, ha, hk0, hy]], hA.below⟩
    case neg =>
      by_cases hk1 : b.kind = 1
      case pos =>
        refine runS hA 28 [.k 0, .b false, .b true] xn (oc (eq_f hk0) (oc (eq_t hk1) on)) (by kernel_rfl) fun w2 hA => ?_
        by_cases hy : y = -1
        case pos =>
          refine revals hA (rc 33 (eq_t hy) rn) (by kernel_rfl) fun hA => ?_
          refine runS hA 5 [.g true, .g true, .i, .g true, .x (.slice A0 ((fs[0]?.getD []).length) c0), .g true] (xc (a := ⟨b0, off0, none⟩) ⟨hb9, k1'⟩ xn) (oc (rfl : Value.bool true = .bool true) (oc (rfl : Value.bool true = .bool true) (oc (show (0 : Int) ≤ (0 : Int) ∧ (0 : Int) < (nf : Int) by omega) (oc (rfl : Value.bool true = .bool true) (oc (rfl : Value.bool true = .bool true) on))))) (by kernel_rfl) fun w3 hA => ?_
          refine callB hA [] on (has_any w3 B A0 (fs[0]?.getD []).length c0 (fs[0]?.getD []) x (k3.below hA.below hB) (Nat.le_trans hB hA.size)) (by kernel_rfl) fun w4 hb4 hA => ?_
          by_cases hx0 : x ∈ (fs[0]?.getD [])
          case pos =>
            refine revals hA (rc 39 (show .bool (decide (x ∈ (fs[0]?.getD []))) = .bool true by rw [decide_eq_true hx0]) rn) (by kernel_rfl) fun hA => ?_
            refine runS hA 17 (List.replicate 5 (.g true)) xn (oc (rfl : Value.bool true = .bool true) (oc (rfl : Value.bool true = .bool true) (oc (rfl : Value.bool true = .bool true) (oc (rfl : Value.bool true = .bool true) (oc (rfl : Value.bool true = .bool true) on))))) (by kernel_rfl) fun w5 hA => ?_
            exact ret (v := .bool true) hA [] (by kernel_rfl) ⟨by rw [show winB b fs x y = true by simp [winB, ha, hk0, hk1, hy, hx0]], hA.below⟩
          case neg =>
            refine revals hA (rc 39 (show .bool (decide (x ∈ (fs[0]?.getD []))) = .bool false by rw [decide_eq_false hx0]) rn) (by kernel_rfl) fun hA => ?_
            refine runS hA 7 [.g true, .g false, .g false, .g true, .g true, .i, .g true, .x (.slice A1 ((fs[1]?.getD []).length) c1), .g true] (xc (a := ⟨b0, off0 + 1, none⟩) ⟨hb9, l1'⟩ xn) (oc (rfl : Value.bool true = .bool true) (oc (rfl : Value.bool false = .bool false) (oc (rfl : Value.bool false = .bool false) (oc (rfl : Value.bool true = .bool true) (oc (rfl : Value.bool true = .bool true) (oc (show (0 : Int) ≤ (1 : Int) ∧ (1 : Int) < (nf : Int) by omega) (oc (rfl : Value.bool true = .bool true) (oc (rfl : Value.bool true = .bool true) on)))))))) (by kernel_rfl) fun w5 hA => ?_
            refine callB hA [] on (has_any w5 B A1 (fs[1]?.getD []).length c1 (fs[1]?.getD []) x (l3.below hA.below hB) (Nat.le_trans hB hA.size)) (by kernel_rfl) fun w6 hb6 hA => ?_
            by_cases hx1 : x ∈ (fs[1]?.getD [])
            case pos =>
              refine revals hA (rc 47 (show .bool (decide (x ∈ (fs[1]?.getD []))) = .bool true by rw [decide_eq_true hx1]) rn) (by kernel_rfl) fun hA => ?_
              refine runS hA 9 [.g false, .g true] xn (oc (rfl : Value.bool false = .bool false) (oc (rfl : Value.bool true = .bool true) on)) (by kernel_rfl) fun w7 hA => ?_
              exact ret (v := .bool true) hA [] (by kernel_rfl) ⟨by rw [show winB b fs x y = true by simp [winB, ha, hk0, hk1, hy, hx0, hx1]], hA.below⟩
            case neg =>
              refine revals hA (rc 47 (show .bool (decide (x ∈ (fs[1]?.getD []))) = .bool false by rw [decide_eq_false hx1]) rn) (by kernel_rfl) fun hA => ?_
              refine runS hA 9 [.g false, .g true] xn (oc (rfl : Value.bool false = .bool false) (oc (rfl : Value.bool true = .bool true) on)) (by kernel_rfl) fun w7 hA => ?_
              exact ret (v := .bool false) hA [] (by kernel_rfl) ⟨by rw [show winB b fs x y = false by simp [winB, ha, hk0, hk1, hy, hx0, hx1]], hA.below⟩
        case neg =>
          refine revals hA (rc 33 (eq_f hy) rn) (by kernel_rfl) fun hA => ?_
          refine runS hA 23 (List.replicate 7 (.g false)) xn (oc (rfl : Value.bool false = .bool false) (oc (rfl : Value.bool false = .bool false) (oc (rfl : Value.bool false = .bool false) (oc (rfl : Value.bool false = .bool false) (oc (rfl : Value.bool false = .bool false) (oc (rfl : Value.bool false = .bool false) (oc (rfl : Value.bool false = .bool false) on))))))) (by kernel_rfl) fun w3 hA => ?_
          exact ret (v := .bool false) hA [] (by kernel_rfl) ⟨by rw [show winB b fs x y = false by simp [winB, ha, hk0, hk1, hy]], hA.below⟩
      case neg =>
        by_cases hk2 : b.kind = 2
        case pos =>
          refine runS hA 36 [.k 0, .b false, .b false, .b true] xn (oc (eq_f hk0) (oc (eq_f hk1) (oc (eq_t hk2) on))) (by kernel_rfl) fun w2 hA => ?_
          by_cases hne : x ≠ y
          case pos =>
            refine revals hA (rc 55 (ne_t hne) rn) (by kernel_rfl) fun hA => ?_
            refine runS hA 5 [.g true, .g true, .i, .g true, .x (.slice A0 ((fs[0]?.getD []).length) c0), .g true] (xc (a := ⟨b0, off0, none⟩) ⟨hb9, k1'⟩ xn) (oc (rfl : Value.bool true = .bool true) (oc (rfl : Value.bool true = .bool true) (oc (show (0 : Int) ≤ (0 : Int) ∧ (0 : Int) < (nf : Int) by omega) (oc (rfl : Value.bool true = .bool true) (oc (rfl : Value.bool true = .bool true) on))))) (by kernel_rfl) fun w3 hA => ?_
            refine callB hA [] on (has_any w3 B A0 (fs[0]?.getD []).length c0 (fs[0]?.getD []) x (k3.below hA.below hB) (Nat.le_trans hB hA.size)) (by kernel_rfl) fun w4 hb4 hA => ?_
            by_cases hx0 : x ∈ (fs[0]?.getD [])
            case pos =>
              refine revals hA (rc 61 (show .bool (decide (x ∈ (fs[0]?.getD []))) = .bool true by rw [decide_eq_true hx0]) rn) (by kernel_rfl) fun hA => ?_
              refine runS hA 18 ([.g true, .g true, .g true] ++ List.replicate 5 (.g false) ++ [.g true, .g true, .g false, .g false, .g true, .g true, .i, .g true, .x (.slice A1 ((fs[1]?.getD []).length) c1), .g true]) (xc (a := ⟨b0, off0 + 1, none⟩) ⟨hb9, l1'⟩ xn) (oc (rfl : Value.bool true = .bool true) (oc (rfl : Value.bool true = .bool true) (oc (rfl : Value.bool true = .bool true) (oc (rfl : Value.bool false = .bool false) (oc (rfl : Value.bool false = .bool false) (oc (rfl : Value.bool false = .bool false) (oc (rfl : Value.bool false = .bool false) (oc (rfl : Value.bool false = .bool false) (oc (rfl : Value.bool true = .bool true) (oc (rfl : Value.bool true = .bool true) (oc (rfl : Value.bool false = .bool false) (oc (rfl : Value.bool false = .bool false) (oc (rfl : Value.bool true = .bool true) (oc (rfl : Value.bool true = .bool true) (oc (show (0 : Int) ≤ (1 : Int) ∧ (1 : Int) < (nf : Int) by omega) (oc (rfl : Value.bool true = .bool true) (oc (rfl : Value.bool true = .bool true) on))))))))))))))))) (by kernel_rfl) fun w5 hA => ?_
              refine callB hA [] on (has_any w5 B A1 (fs[1]?.getD []).length c1 (fs[1]?.getD []) y (l3.below hA.below hB) (Nat.le_trans hB hA.size)) (by kernel_rfl) fun w6 hb6 hA => ?_
              by_cases hy1 : y ∈ (fs[1]?.getD [])
              case pos =>
                refine revals hA (rc 80 (show .bool (decide (y ∈ (fs[1]?.getD []))) = .bool true by rw [decide_eq_true hy1]) rn) (by kernel_rfl) fun hA => ?_
                refine runS hA 9 [.g false, .g true] xn (oc (rfl : Value.bool false = .bool false) (oc (rfl : Value.bool true = .bool true) on)) (by kernel_rfl) fun w7 hA => ?_
                exact ret (v := .bool true) hA [] (by kernel_rfl) ⟨by rw [show winB b fs x y = true by simp [winB, ha, hk0, hk1, hk2, hne, hx0, hy1]], hA.below⟩
              case neg =>
                refine revals hA (rc 80 (show .bool (decide (y ∈ (fs[1]?.getD []))) = .bool false by rw [decide_eq_false hy1]) rn) (by kernel_rfl) fun hA => ?_
                refine runS hA 9 [.g false, .g true] xn (oc (rfl : Value.bool false = .bool false) (oc (rfl : Value.bool true = .bool true) on)) (by kernel_rfl) fun w7 hA => ?_
                exact ret (v := .bool false) hA [] (by kernel_rfl) ⟨by rw [show winB b fs x y = false by simp [winB, ha, hk0, hk1, hk2, hne, hx0, hy1]], hA.below⟩
            case neg =>
              refine revals hA (rc 61 (show .bool (decide (x ∈ (fs[0]?.getD []))) = .bool false by rw [decide_eq_false hx0]) rn) (by kernel_rfl) fun hA => ?_
              refine runS hA 28 (List.replicate 6 (.g false)) xn (oc (rfl : Value.bool false = .bool false) (oc (rfl : Value.bool false = .bool false) (oc (rfl : Value.bool false = .bool false) (oc (rfl : Value.bool false = .bool false) (oc (rfl : Value.bool false = .bool false) (oc (rfl : Value.bool false = .bool false) on)))))) (by kernel_rfl) fun w5 hA => ?_
              exact ret (v := .bool false) hA [] (by kernel_rfl) ⟨by rw [show winB b fs x y = false by simp [winB, ha, hk0, hk1, hk2, hne, hx0]], hA.below⟩
          case neg =>
            refine revals hA (rc 55 (ne_f (Classical.not_not.1 hne)) rn) (by kernel_rfl) fun hA => ?_
            refine runS hA 34 (List.replicate 11 (.g false)) xn (oc (rfl : Value.bool false = .bool false) (oc (rfl : Value.bool false = .bool false) (oc (rfl : Value.bool false = .bool false) (oc (rfl : Value.bool false = .bool false) (oc (rfl : Value.bool false = .bool false) (oc (rfl : Value.bool false = .bool false) (oc (rfl : Value.bool false = .bool false) (oc (rfl : Value.bool false = .bool false) (oc (rfl : Value.bool false = .bool false) (oc (rfl : Value.bool false = .bool false) (oc (rfl : Value.bool false = .bool false) on))))))))))) (by kernel_rfl) fun w3 hA => ?_
            exact ret (v := .bool false) hA [] (by kernel_rfl) ⟨by rw [show winB b fs x y = false by simp [winB, ha, hk0, hk1, hk2, hne]], hA.below⟩
        case neg =>
          refine runS hA 35 [.k 0, .b false, .b false, .b false] xn (oc (eq_f hk0) (oc (eq_f hk1) (oc (eq_f hk2) on))) (by kernel_rfl) fun w2 hA => ?_
          refine draw hA [true] [0, 1, 2, 3, 4, 5, 6, 7, 8, 9, 10, 11] (by kernel_rfl) (by kernel_rfl) fun hA => ?_
          refine runS hA 8 [.t 0, .t 1, .i, .t 2, .x (.slice A0 ((fs[0]?.getD []).length) c0), .t 3, .t 5, .t 6, .i, .t 7, .x (.slice A0 ((fs[0]?.getD []).length) c0), .t 8] (xc (a := ⟨b0, off0, none⟩) ⟨hb9, k1'⟩ (xc (a := ⟨b0, off0, none⟩) ⟨hb9, k1'⟩ xn)) (oc (show (0 : Int) ≤ (0 : Int) ∧ (0 : Int) < (nf : Int) by omega) (oc (show (0 : Int) ≤ (0 : Int) ∧ (0 : Int) < (nf : Int) by omega) on)) (by kernel_rfl) fun w3 hA => ?_
          have hA0IW := hA
          refine latK hA0IW [4, 9, 10, 11] (γ := Unit) (fun _ => [(1, .slice (some ⟨b0, off0, none⟩) nf cf), (2, .int .i64 x), (3, .int .i64 y), (8, .bool false), (9, .bool true), (10, .bool (decide (x ∈ (fs[0]?.getD [])))), (11, .bool (decide (y ∈ (fs[0]?.getD []))))]) (fun _ => [⟨w.heap.size, .cells #[.int .i64 b.kind, .int .i64 b.runners, .slice A n c, .slice A2 m c2, .bool b.fav, .int .i64 b.car, .int .i64 b.dut, .int .i64 b.stp] 25 (0, 0)⟩]) (fun _ => []) (fun _ _ => True) (fun hIW4_9 => ?_) ?_
          ·
            refine latS hA0IW [4] (γ := Unit) (fun _ => [(1, .slice (some ⟨b0, off0, none⟩) nf cf), (2, .int .i64 x), (3, .int .i64 y), (8, .bool false), (9, .bool true), (84, .slice (some ⟨b0, off0, none⟩) nf cf), (85, .pointer (some ⟨b0, off0, none⟩)), (86, .slice A0 ((fs[0]?.getD []).length) c0), (87, .int .i64 x), (88, .bool (decide (x ∈ (fs[0]?.getD [])))), (89, .slice (some ⟨b0, off0, none⟩) nf cf), (90, .pointer (some ⟨b0, off0, none⟩)), (91, .slice A0 ((fs[0]?.getD []).length) c0), (92, .int .i64 y)]) (fun _ => [⟨w.heap.size, .cells #[.int .i64 b.kind, .int .i64 b.runners, .slice A n c, .slice A2 m c2, .bool b.fav, .int .i64 b.car, .int .i64 b.dut, .int .i64 b.stp] 25 (0, 0)⟩]) (fun _ => []) (fun _ _ => True) ?_ (fun hIW4 => ?_)
            · rintro _ wl4 _ hA
              refine callB hA [] on (has_any wl4 B A0 (fs[0]?.getD []).length c0 (fs[0]?.getD []) y (k3.below hA.below hB) (Nat.le_trans hB hA.size)) (by kernel_rfl) fun w105 hb105 hA => ?_
              refine runS hA 2 [.t 10, .t 11] xn on (by kernel_rfl) fun w106 hA => ?_
              exact joinE hIW4_9 () trivial [0] hA rfl (by kernel_rfl) (by decide)
            replace hA := hA0IW
            refine callB hA [] on (has_any w3 B A0 (fs[0]?.getD []).length c0 (fs[0]?.getD []) x (k3.below hA.below hB) (Nat.le_trans hB hA.size)) (by kernel_rfl) fun w5 hb5 hA => ?_
            exact joinE hIW4 () trivial [0] hA rfl (by kernel_rfl) (by decide)
          rintro _ w54 _ hA
          refine runS hA 7 [.b true] xn on (by kernel_rfl) fun w55 hA => ?_
          by_cases hx0 : x ∈ (fs[0]?.getD [])
          case pos =>
            by_cases hy0 : y ∈ (fs[0]?.getD [])
            case pos =>
              by_cases hlt : x < y
              case pos =>
                refine revals hA (rc 10 (show .bool (decide (x ∈ (fs[0]?.getD []))) = .bool true by rw [decide_eq_true hx0]) (rc 11 (show .bool (decide (y ∈ (fs[0]?.getD []))) = .bool true by rw [decide_eq_true hy0]) (rc 96 (dec_t hlt) rn))) (by kernel_rfl) fun hA => ?_
                refine runS hA 18 ([.g true, .g true, .g true, .g false, .g true, .g true, .g false, .g true, .g true, .g false, .g false] ++ List.replicate 4 (.g true) ++ [.i, .g true, .x (.slice A1 ((fs[1]?.getD []).length) c1), .g true]) (xc (a := ⟨b0, off0 + 1, none⟩) ⟨hb9, l1'⟩ xn) (oc (rfl : Value.bool true = .bool true) (oc (rfl : Value.bool true = .bool true) (oc (rfl : Value.bool true = .bool true) (oc (rfl : Value.bool false = .bool false) (oc (rfl : Value.bool true = .bool true) (oc (rfl : Value.bool true = .bool true) (oc (rfl : Value.bool false = .bool false) (oc (rfl : Value.bool true = .bool true) (oc (rfl : Value.bool true = .bool true) (oc (rfl : Value.bool false = .bool false) (oc (rfl : Value.bool false = .bool false) (oc (rfl : Value.bool true = .bool true) (oc (rfl : Value.bool true = .bool true) (oc (rfl : Value.bool true = .bool true) (oc (rfl : Value.bool true = .bool true) (oc (show (0 : Int) ≤ (1 : Int) ∧ (1 : Int) < (nf : Int) by omega) (oc (rfl : Value.bool true = .bool true) (oc (rfl : Value.bool true = .bool true) on)))))))))))))))))) (by kernel_rfl) fun w56 hA => ?_
                refine callB hA [] on (has_any w56 B A1 (fs[1]?.getD []).length c1 (fs[1]?.getD []) y (l3.below hA.below hB) (Nat.le_trans hB hA.size)) (by kernel_rfl) fun w57 hb57 hA => ?_
                by_cases hy1 : y ∈ (fs[1]?.getD [])
                case pos =>
                  refine revals hA (rc 115 (show .bool (decide (y ∈ (fs[1]?.getD []))) = .bool true by rw [decide_eq_true hy1]) rn) (by kernel_rfl) fun hA => ?_
                  refine runS hA 18 (List.replicate 6 (.g true) ++ [.g false, .g true]) xn (oc (rfl : Value.bool true = .bool true) (oc (rfl : Value.bool true = .bool true) (oc (rfl : Value.bool true = .bool true) (oc (rfl : Value.bool true = .bool true) (oc (rfl : Value.bool true = .bool true) (oc (rfl : Value.bool true = .bool true) (oc (rfl : Value.bool false = .bool false) (oc (rfl : Value.bool true = .bool true) on)))))))) (by kernel_rfl) fun w58 hA => ?_
                  exact ret (v := .bool true) hA [] (by kernel_rfl) ⟨by rw [show winB b fs x y = true by simp [winB, ha, hk0, hk1, hk2, hx0, hy0, hlt, hy1]], hA.below⟩
                case neg =>
                  refine revals hA (rc 115 (show .bool (decide (y ∈ (fs[1]?.getD []))) = .bool false by rw [decide_eq_false hy1]) rn) (by kernel_rfl) fun hA => ?_
                  refine runS hA 8 [.g true, .g true, .g false, .g false, .g true, .g true, .i, .g true, .x (.slice A1 ((fs[1]?.getD []).length) c1), .g true] (xc (a := ⟨b0, off0 + 1, none⟩) ⟨hb9, l1'⟩ xn) (oc (rfl : Value.bool true = .bool true) (oc (rfl : Value.bool true = .bool true) (oc (rfl : Value.bool false = .bool false) (oc (rfl : Value.bool false = .bool false) (oc (rfl : Value.bool true = .bool true) (oc (rfl : Value.bool true = .bool true) (oc (show (0 : Int) ≤ (1 : Int) ∧ (1 : Int) < (nf : Int) by omega) (oc (rfl : Value.bool true = .bool true) (oc (rfl : Value.bool true = .bool true) on))))))))) (by kernel_rfl) fun w58 hA => ?_
                  refine callB hA [] on (has_any w58 B A1 (fs[1]?.getD []).length c1 (fs[1]?.getD []) x (l3.below hA.below hB) (Nat.le_trans hB hA.size)) (by kernel_rfl) fun w59 hb59 hA => ?_
                  by_cases hx1 : x ∈ (fs[1]?.getD [])
                  case pos =>
                    refine revals hA (rc 124 (show .bool (decide (x ∈ (fs[1]?.getD []))) = .bool true by rw [decide_eq_true hx1]) rn) (by kernel_rfl) fun hA => ?_
                    refine runS hA 9 [.g false, .g true, .g false, .g true] xn (oc (rfl : Value.bool false = .bool false) (oc (rfl : Value.bool true = .bool true) (oc (rfl : Value.bool false = .bool false) (oc (rfl : Value.bool true = .bool true) on)))) (by kernel_rfl) fun w60 hA => ?_
                    exact ret (v := .bool true) hA [] (by kernel_rfl) ⟨by rw [show winB b fs x y = true by simp [winB, ha, hk0, hk1, hk2, hx0, hy0, hlt, hy1, hx1]], hA.below⟩
                  case neg =>
                    refine revals hA (rc 124 (show .bool (decide (x ∈ (fs[1]?.getD []))) = .bool false by rw [decide_eq_false hx1]) rn) (by kernel_rfl) fun hA => ?_
                    refine runS hA 9 [.g false, .g true, .g false, .g true] xn (oc (rfl : Value.bool false = .bool false) (oc (rfl : Value.bool true = .bool true) (oc (rfl : Value.bool false = .bool false) (oc (rfl : Value.bool true = .bool true) on)))) (by kernel_rfl) fun w60 hA => ?_
                    exact ret (v := .bool false) hA [] (by kernel_rfl) ⟨by rw [show winB b fs x y = false by simp [winB, ha, hk0, hk1, hk2, hx0, hy0, hlt, hy1, hx1]], hA.below⟩
              case neg =>
                refine revals hA (rc 10 (show .bool (decide (x ∈ (fs[0]?.getD []))) = .bool true by rw [decide_eq_true hx0]) (rc 11 (show .bool (decide (y ∈ (fs[0]?.getD []))) = .bool true by rw [decide_eq_true hy0]) (rc 96 (dec_f hlt) rn))) (by kernel_rfl) fun hA => ?_
                refine runS hA 37 (List.replicate 8 (.g false)) xn (oc (rfl : Value.bool false = .bool false) (oc (rfl : Value.bool false = .bool false) (oc (rfl : Value.bool false = .bool false) (oc (rfl : Value.bool false = .bool false) (oc (rfl : Value.bool false = .bool false) (oc (rfl : Value.bool false = .bool false) (oc (rfl : Value.bool false = .bool false) (oc (rfl : Value.bool false = .bool false) on)))))))) (by kernel_rfl) fun w56 hA => ?_
                exact ret (v := .bool false) hA [] (by kernel_rfl) ⟨by rw [show winB b fs x y = false by simp [winB, ha, hk0, hk1, hk2, hx0, hy0, hlt]], hA.below⟩
            case neg =>
              by_cases hlt : x < y
              case pos =>
                refine revals hA (rc 10 (show .bool (decide (x ∈ (fs[0]?.getD []))) = .bool true by rw [decide_eq_true hx0]) (rc 11 (show .bool (decide (y ∈ (fs[0]?.getD []))) = .bool false by rw [decide_eq_false hy0]) (rc 96 (dec_t hlt) rn))) (by kernel_rfl) fun hA => ?_
                refine runS hA 18 ([.g true, .g true, .g true, .g false, .g true, .g true, .g false, .g true, .g true, .g false, .g false] ++ List.replicate 4 (.g true) ++ [.i, .g true, .x (.slice A1 ((fs[1]?.getD []).length) c1), .g true]) (xc (a := ⟨b0, off0 + 1, none⟩) ⟨hb9, l1'⟩ xn) (oc (rfl : Value.bool true = .bool true) (oc (rfl : Value.bool true = .bool true) (oc (rfl : Value.bool true = .bool true) (oc (rfl : Value.bool false = .bool false) (oc (rfl : Value.bool true = .bool true) (oc (rfl : Value.bool true = .bool true) (oc (rfl : Value.bool false = .bool false) (oc (rfl : Value.bool true = .bool true) (oc (rfl : Value.bool true = .bool true) (oc (rfl : Value.bool false = .bool false) (oc (rfl : Value.bool false = .bool false) (oc (rfl : Value.bool true = .bool true) (oc (rfl : Value.bool true = .bool true) (oc (rfl : Value.bool true = .bool true) (oc (rfl : Value.bool true = .bool true) (oc (show (0 : Int) ≤ (1 : Int) ∧ (1 : Int) < (nf : Int) by omega) (oc (rfl : Value.bool true = .bool true) (oc (rfl : Value.bool true = .bool true) on)))))))))))))))))) (by kernel_rfl) fun w56 hA => ?_
                refine callB hA [] on (has_any w56 B A1 (fs[1]?.getD []).length c1 (fs[1]?.getD []) y (l3.below hA.below hB) (Nat.le_trans hB hA.size)) (by kernel_rfl) fun w57 hb57 hA => ?_
                by_cases hy1 : y ∈ (fs[1]?.getD [])
                case pos =>
                  refine revals hA (rc 115 (show .bool (decide (y ∈ (fs[1]?.getD []))) = .bool true by rw [decide_eq_true hy1]) rn) (by kernel_rfl) fun hA => ?_
                  refine runS hA 18 (List.replicate 6 (.g true) ++ [.g false, .g true]) xn (oc (rfl : Value.bool true = .bool true) (oc (rfl : Value.bool true = .bool true) (oc (rfl : Value.bool true = .bool true) (oc (rfl : Value.bool true = .bool true) (oc (rfl : Value.bool true = .bool true) (oc (rfl : Value.bool true = .bool true) (oc (rfl : Value.bool false = .bool false) (oc (rfl : Value.bool true = .bool true) on)))))))) (by kernel_rfl) fun w58 hA => ?_
                  exact ret (v := .bool true) hA [] (by kernel_rfl) ⟨by rw [show winB b fs x y = true by simp [winB, ha, hk0, hk1, hk2, hx0, hy0, hlt, hy1]], hA.below⟩
                case neg =>
                  refine revals hA (rc 115 (show .bool (decide (y ∈ (fs[1]?.getD []))) = .bool false by rw [decide_eq_false hy1]) rn) (by kernel_rfl) fun hA => ?_
                  refine runS hA 18 ([.g true, .g true] ++ List.replicate 8 (.g false) ++ [.g true, .g false, .g true]) xn (oc (rfl : Value.bool true = .bool true) (oc (rfl : Value.bool true = .bool true) (oc (rfl : Value.bool false = .bool false) (oc (rfl : Value.bool false = .bool false) (oc (rfl : Value.bool false = .bool false) (oc (rfl : Value.bool false = .bool false) (oc (rfl : Value.bool false = .bool false) (oc (rfl : Value.bool false = .bool false) (oc (rfl : Value.bool false = .bool false) (oc (rfl : Value.bool false = .bool false) (oc (rfl : Value.bool true = .bool true) (oc (rfl : Value.bool false = .bool false) (oc (rfl : Value.bool true = .bool true) on))))))))))))) (by kernel_rfl) fun w58 hA => ?_
                  exact ret (v := .bool false) hA [] (by kernel_rfl) ⟨by rw [show winB b fs x y = false by simp [winB, ha, hk0, hk1, hk2, hx0, hy0, hlt, hy1]], hA.below⟩
              case neg =>
                refine revals hA (rc 10 (show .bool (decide (x ∈ (fs[0]?.getD []))) = .bool true by rw [decide_eq_true hx0]) (rc 11 (show .bool (decide (y ∈ (fs[0]?.getD []))) = .bool false by rw [decide_eq_false hy0]) (rc 96 (dec_f hlt) rn))) (by kernel_rfl) fun hA => ?_
                refine runS hA 37 (List.replicate 8 (.g false)) xn (oc (rfl : Value.bool false = .bool false) (oc (rfl : Value.bool false = .bool false) (oc (rfl : Value.bool false = .bool false) (oc (rfl : Value.bool false = .bool false) (oc (rfl : Value.bool false = .bool false) (oc (rfl : Value.bool false = .bool false) (oc (rfl : Value.bool false = .bool false) (oc (rfl : Value.bool false = .bool false) on)))))))) (by kernel_rfl) fun w56 hA => ?_
                exact ret (v := .bool false) hA [] (by kernel_rfl) ⟨by rw [show winB b fs x y = false by simp [winB, ha, hk0, hk1, hk2, hx0, hy0, hlt]], hA.below⟩
          case neg =>
            by_cases hy0 : y ∈ (fs[0]?.getD [])
            case pos =>
              by_cases hlt : x < y
              case pos =>
                refine revals hA (rc 10 (show .bool (decide (x ∈ (fs[0]?.getD []))) = .bool false by rw [decide_eq_false hx0]) (rc 11 (show .bool (decide (y ∈ (fs[0]?.getD []))) = .bool true by rw [decide_eq_true hy0]) (rc 96 (dec_t hlt) rn))) (by kernel_rfl) fun hA => ?_
                refine runS hA 27 ([.g true, .g true, .g true, .g false, .g true, .g true, .g false, .g true, .g true, .g false, .g false, .g true, .g true] ++ List.replicate 5 (.g false) ++ [.g true, .g true, .g false, .g false, .g true, .g true, .i, .g true, .x (.slice A1 ((fs[1]?.getD []).length) c1), .g true]) (xc (a := ⟨b0, off0 + 1, none⟩) ⟨hb9, l1'⟩ xn) (oc (rfl : Value.bool true = .bool true) (oc (rfl : Value.bool true = .bool true) (oc (rfl : Value.bool true = .bool true) (oc (rfl : Value.bool false = .bool false) (oc (rfl : Value.bool true = .bool true) (oc (rfl : Value.bool true = .bool true) (oc (rfl : Value.bool false = .bool false) (oc (rfl : Value.bool true = .bool true) (oc (rfl : Value.bool true = .bool true) (oc (rfl : Value.bool false = .bool false) (oc (rfl : Value.bool false = .bool false) (oc (rfl : Value.bool true = .bool true) (oc (rfl : Value.bool true = .bool true) (oc (rfl : Value.bool false = .bool false) (oc (rfl : Value.bool false = .bool false) (oc (rfl : Value.bool false = .bool false) (oc (rfl : Value.bool false = .bool false) (oc (rfl : Value.bool false = .bool false) (oc (rfl : Value.bool true = .bool true) (oc (rfl : Value.bool true = .bool true) (oc (rfl : Value.bool false = .bool false) (oc (rfl : Value.bool false = .bool false) (oc (rfl : Value.bool true = .bool true) (oc (rfl : Value.bool true = .bool true) (oc (show (0 : Int) ≤ (1 : Int) ∧ (1 : Int) < (nf : Int) by omega) (oc (rfl : Value.bool true = .bool true) (oc (rfl : Value.bool true = .bool true) on))))))))))))))))))))))))))) (by kernel_rfl) fun w56 hA => ?_
                refine callB hA [] on (has_any w56 B A1 (fs[1]?.getD []).length c1 (fs[1]?.getD []) x (l3.below hA.below hB) (Nat.le_trans hB hA.size)) (by kernel_rfl) fun w57 hb57 hA => ?_
                by_cases hx1 : x ∈ (fs[1]?.getD [])
                case pos =>
                  refine revals hA (rc 124 (show .bool (decide (x ∈ (fs[1]?.getD []))) = .bool true by rw [decide_eq_true hx1]) rn) (by kernel_rfl) fun hA => ?_
                  refine runS hA 9 [.g false, .g true, .g false, .g true] xn (oc (rfl : Value.bool false = .bool false) (oc (rfl : Value.bool true = .bool true) (oc (rfl : Value.bool false = .bool false) (oc (rfl : Value.bool true = .bool true) on)))) (by kernel_rfl) fun w58 hA => ?_
                  exact ret (v := .bool true) hA [] (by kernel_rfl) ⟨by rw [show winB b fs x y = true by simp [winB, ha, hk0, hk1, hk2, hx0, hy0, hlt, hx1]], hA.below⟩
                case neg =>
                  refine revals hA (rc 124 (show .bool (decide (x ∈ (fs[1]?.getD []))) = .bool false by rw [decide_eq_false hx1]) rn) (by kernel_rfl) fun hA => ?_
                  refine runS hA 9 [.g false, .g true, .g false, .g true] xn (oc (rfl : Value.bool false = .bool false) (oc (rfl : Value.bool true = .bool true) (oc (rfl : Value.bool false = .bool false) (oc (rfl : Value.bool true = .bool true) on)))) (by kernel_rfl) fun w58 hA => ?_
                  exact ret (v := .bool false) hA [] (by kernel_rfl) ⟨by rw [show winB b fs x y = false by simp [winB, ha, hk0, hk1, hk2, hx0, hy0, hlt, hx1]], hA.below⟩
              case neg =>
                refine revals hA (rc 10 (show .bool (decide (x ∈ (fs[0]?.getD []))) = .bool false by rw [decide_eq_false hx0]) (rc 11 (show .bool (decide (y ∈ (fs[0]?.getD []))) = .bool true by rw [decide_eq_true hy0]) (rc 96 (dec_f hlt) rn))) (by kernel_rfl) fun hA => ?_
                refine runS hA 37 (List.replicate 8 (.g false)) xn (oc (rfl : Value.bool false = .bool false) (oc (rfl : Value.bool false = .bool false) (oc (rfl : Value.bool false = .bool false) (oc (rfl : Value.bool false = .bool false) (oc (rfl : Value.bool false = .bool false) (oc (rfl : Value.bool false = .bool false) (oc (rfl : Value.bool false = .bool false) (oc (rfl : Value.bool false = .bool false) on)))))))) (by kernel_rfl) fun w56 hA => ?_
                exact ret (v := .bool false) hA [] (by kernel_rfl) ⟨by rw [show winB b fs x y = false by simp [winB, ha, hk0, hk1, hk2, hx0, hy0, hlt]], hA.below⟩
            case neg =>
              by_cases hlt : x < y
              case pos =>
                refine revals hA (rc 10 (show .bool (decide (x ∈ (fs[0]?.getD []))) = .bool false by rw [decide_eq_false hx0]) (rc 11 (show .bool (decide (y ∈ (fs[0]?.getD []))) = .bool false by rw [decide_eq_false hy0]) (rc 96 (dec_t hlt) rn))) (by kernel_rfl) fun hA => ?_
                refine runS hA 37 ([.g true, .g true, .g true, .g false, .g true, .g true, .g false, .g true, .g true, .g false, .g false, .g true, .g true] ++ List.replicate 5 (.g false) ++ [.g true, .g true] ++ List.replicate 8 (.g false) ++ [.g true, .g false, .g true]) xn (oc (rfl : Value.bool true = .bool true) (oc (rfl : Value.bool true = .bool true) (oc (rfl : Value.bool true = .bool true) (oc (rfl : Value.bool false = .bool false) (oc (rfl : Value.bool true = .bool true) (oc (rfl : Value.bool true = .bool true) (oc (rfl : Value.bool false = .bool false) (oc (rfl : Value.bool true = .bool true) (oc (rfl : Value.bool true = .bool true) (oc (rfl : Value.bool false = .bool false) (oc (rfl : Value.bool false = .bool false) (oc (rfl : Value.bool true = .bool true) (oc (rfl : Value.bool true = .bool true) (oc (rfl : Value.bool false = .bool false) (oc (rfl : Value.bool false = .bool false) (oc (rfl : Value.bool false = .bool false) (oc (rfl : Value.bool false = .bool false) (oc (rfl : Value.bool false = .bool false) (oc (rfl : Value.bool true = .bool true) (oc (rfl : Value.bool true = .bool true) (oc (rfl : Value.bool false = .bool false) (oc (rfl : Value.bool false = .bool false) (oc (rfl : Value.bool false = .bool false) (oc (rfl : Value.bool false = .bool false) (oc (rfl : Value.bool false = .bool false) (oc (rfl : Value.bool false = .bool false) (oc (rfl : Value.bool false = .bool false) (oc (rfl : Value.bool false = .bool false) (oc (rfl : Value.bool true = .bool true) (oc (rfl : Value.bool false = .bool false) (oc (rfl : Value.bool true = .bool true) on))))))))))))))))))))))))))))))) (by kernel_rfl) fun w56 hA => ?_
                exact ret (v := .bool false) hA [] (by kernel_rfl) ⟨by rw [show winB b fs x y = false by simp [winB, ha, hk0, hk1, hk2, hx0, hy0, hlt]], hA.below⟩
              case neg =>
                refine revals hA (rc 10 (show .bool (decide (x ∈ (fs[0]?.getD []))) = .bool false by rw [decide_eq_false hx0]) (rc 11 (show .bool (decide (y ∈ (fs[0]?.getD []))) = .bool false by rw [decide_eq_false hy0]) (rc 96 (dec_f hlt) rn))) (by kernel_rfl) fun hA => ?_
                refine runS hA 37 (List.replicate 8 (.g false)) xn (oc (rfl : Value.bool false = .bool false) (oc (rfl : Value.bool false = .bool false) (oc (rfl : Value.bool false = .bool false) (oc (rfl : Value.bool false = .bool false) (oc (rfl : Value.bool false = .bool false) (oc (rfl : Value.bool false = .bool false) (oc (rfl : Value.bool false = .bool false) (oc (rfl : Value.bool false = .bool false) on)))))))) (by kernel_rfl) fun w56 hA => ?_
                exact ret (v := .bool false) hA [] (by kernel_rfl) ⟨by rw [show winB b fs x y = false by simp [winB, ha, hk0, hk1, hk2, hx0, hy0, hlt]], hA.below⟩
  case neg =>
    refine revals hA (rc 9 (eq_f (a := ((fs[0]?.getD []).length : Int)) (b := 1) (by omega)) rn) (by kernel_rfl) fun hA => ?_
    by_cases hk0 : b.kind = 0
    case pos =>
      refine runS hA 21 [.k 0, .b true] xn (oc (eq_t hk0) on) (by kernel_rfl) fun w2 hA => ?_
      by_cases hy : y = -1
      case pos =>
        refine revals hA (rc 22 (eq_t hy) rn) (by kernel_rfl) fun hA => ?_
        refine runS hA 5 [.g true, .g true, .i, .g true, .x (.slice A0 ((fs[0]?.getD []).length) c0), .g true] (xc (a := ⟨b0, off0, none⟩) ⟨hb9, k1'⟩ xn) (oc (rfl : Value.bool true = .bool true) (oc (rfl : Value.bool true = .bool true) (oc (show (0 : Int) ≤ (0 : Int) ∧ (0 : Int) < (nf : Int) by omega) (oc (rfl : Value.bool true = .bool true) (oc (rfl : Value.bool true = .bool true) on))))) (by kernel_rfl) fun w3 hA => ?_
        refine callB hA [] on (has_any w3 B A0 (fs[0]?.getD []).length c0 (fs[0]?.getD []) x (k3.below hA.below hB) (Nat.le_trans hB hA.size)) (by kernel_rfl) fun w4 hb4 hA => ?_
        by_cases hx0 : x ∈ (fs[0]?.getD [])
        case pos =>
          refine revals hA (rc 28 (show .bool (decide (x ∈ (fs[0]?.getD []))) = .bool true by rw [decide_eq_true hx0]) rn) (by kernel_rfl) fun hA => ?_
          refine runS hA 7 [] xn on (by kernel_rfl) fun w5 hA => ?_
          exact ret (v := .bool true) hA [] (by kernel_rfl) ⟨by rw [show winB b fs x y = true by simp [winB, ha, hk0, hy, hx0]], hA.below⟩
        case neg =>
          refine revals hA (rc 28 (show .bool (decide (x ∈ (fs[0]?.getD []))) = .bool false by rw [decide_eq_false hx0]) rn) (by kernel_rfl) fun hA => ?_
          refine runS hA 7 [] xn on (by kernel_rfl) fun w5 hA => ?_
          exact ret (v := .bool false) hA [] (by kernel_rfl) ⟨by rw [show winB b fs x y = false by simp [winB, ha, hk0, hy, hx0]], hA.below⟩
      case neg =>
        refine revals hA (rc 22 (eq_f hy) rn) (by kernel_rfl) fun hA => ?_
        refine runS hA 13 (List.replicate 5 (.g false)) xn (oc (rfl : Value.bool false = .bool false) (oc (rfl : Value.bool false = .bool false) (oc (rfl : Value.bool false = .bool false) (oc (rfl : Value.bool false = .bool false) (oc (rfl : Value.bool false = .bool false) on))))) (by kernel_rfl) fun w3 hA => ?_
        exact ret (v := .bool false) hA [] (by kernel_rfl) ⟨by rw [show winB b fs x y = false by simp [winB, ha, hk0, hy]], hA.below⟩
    case neg =>
      by_cases hk1 : b.kind = 1
      case pos =>
        refine runS hA 28 [.k 0, .b false, .b true] xn (oc (eq_f hk0) (oc (eq_t hk1) on)) (by kernel_rfl) fun w2 hA => ?_
        by_cases hy : y = -1
        case pos =>
          refine revals hA (rc 33 (eq_t hy) rn) (by kernel_rfl) fun hA => ?_
          refine runS hA 5 [.g true, .g true, .i, .g true, .x (.slice A0 ((fs[0]?.getD []).length) c0), .g true] (xc (a := ⟨b0, off0, none⟩) ⟨hb9, k1'⟩ xn) (oc (rfl : Value.bool true = .bool true) (oc (rfl : Value.bool true = .bool true) (oc (show (0 : Int) ≤ (0 : Int) ∧ (0 : Int) < (nf : Int) by omega) (oc (rfl : Value.bool true = .bool true) (oc (rfl : Value.bool true = .bool true) on))))) (by kernel_rfl) fun w3 hA => ?_
          refine callB hA [] on (has_any w3 B A0 (fs[0]?.getD []).length c0 (fs[0]?.getD []) x (k3.below hA.below hB) (Nat.le_trans hB hA.size)) (by kernel_rfl) fun w4 hb4 hA => ?_
          by_cases hx0 : x ∈ (fs[0]?.getD [])
          case pos =>
            refine revals hA (rc 39 (show .bool (decide (x ∈ (fs[0]?.getD []))) = .bool true by rw [decide_eq_true hx0]) rn) (by kernel_rfl) fun hA => ?_
            refine runS hA 17 (List.replicate 5 (.g true)) xn (oc (rfl : Value.bool true = .bool true) (oc (rfl : Value.bool true = .bool true) (oc (rfl : Value.bool true = .bool true) (oc (rfl : Value.bool true = .bool true) (oc (rfl : Value.bool true = .bool true) on))))) (by kernel_rfl) fun w5 hA => ?_
            exact ret (v := .bool true) hA [] (by kernel_rfl) ⟨by rw [show winB b fs x y = true by simp [winB, ha, hk0, hk1, hy, hx0]], hA.below⟩
          case neg =>
            refine revals hA (rc 39 (show .bool (decide (x ∈ (fs[0]?.getD []))) = .bool false by rw [decide_eq_false hx0]) rn) (by kernel_rfl) fun hA => ?_
            refine runS hA 17 ([.g true] ++ List.replicate 8 (.g false) ++ [.g true]) xn (oc (rfl : Value.bool true = .bool true) (oc (rfl : Value.bool false = .bool false) (oc (rfl : Value.bool false = .bool false) (oc (rfl : Value.bool false = .bool false) (oc (rfl : Value.bool false = .bool false) (oc (rfl : Value.bool false = .bool false) (oc (rfl : Value.bool false = .bool false) (oc (rfl : Value.bool false = .bool false) (oc (rfl : Value.bool false = .bool false) (oc (rfl : Value.bool true = .bool true) on)))))))))) (by kernel_rfl) fun w5 hA => ?_
            exact ret (v := .bool false) hA [] (by kernel_rfl) ⟨by rw [show winB b fs x y = false by simp [winB, ha, hk0, hk1, hy, hx0]], hA.below⟩
        case neg =>
          refine revals hA (rc 33 (eq_f hy) rn) (by kernel_rfl) fun hA => ?_
          refine runS hA 23 (List.replicate 7 (.g false)) xn (oc (rfl : Value.bool false = .bool false) (oc (rfl : Value.bool false = .bool false) (oc (rfl : Value.bool false = .bool false) (oc (rfl : Value.bool false = .bool false) (oc (rfl : Value.bool false = .bool false) (oc (rfl : Value.bool false = .bool false) (oc (rfl : Value.bool false = .bool false) on))))))) (by kernel_rfl) fun w3 hA => ?_
          exact ret (v := .bool false) hA [] (by kernel_rfl) ⟨by rw [show winB b fs x y = false by simp [winB, ha, hk0, hk1, hy]], hA.below⟩
      case neg =>
        by_cases hk2 : b.kind = 2
        case pos =>
          refine runS hA 36 [.k 0, .b false, .b false, .b true] xn (oc (eq_f hk0) (oc (eq_f hk1) (oc (eq_t hk2) on))) (by kernel_rfl) fun w2 hA => ?_
          by_cases hne : x ≠ y
          case pos =>
            refine revals hA (rc 55 (ne_t hne) rn) (by kernel_rfl) fun hA => ?_
            refine runS hA 5 [.g true, .g true, .i, .g true, .x (.slice A0 ((fs[0]?.getD []).length) c0), .g true] (xc (a := ⟨b0, off0, none⟩) ⟨hb9, k1'⟩ xn) (oc (rfl : Value.bool true = .bool true) (oc (rfl : Value.bool true = .bool true) (oc (show (0 : Int) ≤ (0 : Int) ∧ (0 : Int) < (nf : Int) by omega) (oc (rfl : Value.bool true = .bool true) (oc (rfl : Value.bool true = .bool true) on))))) (by kernel_rfl) fun w3 hA => ?_
            refine callB hA [] on (has_any w3 B A0 (fs[0]?.getD []).length c0 (fs[0]?.getD []) x (k3.below hA.below hB) (Nat.le_trans hB hA.size)) (by kernel_rfl) fun w4 hb4 hA => ?_
            by_cases hx0 : x ∈ (fs[0]?.getD [])
            case pos =>
              refine revals hA (rc 61 (show .bool (decide (x ∈ (fs[0]?.getD []))) = .bool true by rw [decide_eq_true hx0]) rn) (by kernel_rfl) fun hA => ?_
              refine runS hA 9 (List.replicate 5 (.g true) ++ [.i, .g true, .x (.slice A0 ((fs[0]?.getD []).length) c0), .g true]) (xc (a := ⟨b0, off0, none⟩) ⟨hb9, k1'⟩ xn) (oc (rfl : Value.bool true = .bool true) (oc (rfl : Value.bool true = .bool true) (oc (rfl : Value.bool true = .bool true) (oc (rfl : Value.bool true = .bool true) (oc (rfl : Value.bool true = .bool true) (oc (show (0 : Int) ≤ (0 : Int) ∧ (0 : Int) < (nf : Int) by omega) (oc (rfl : Value.bool true = .bool true) (oc (rfl : Value.bool true = .bool true) on)))))))) (by kernel_rfl) fun w5 hA => ?_
              refine callB hA [] on (has_any w5 B A0 (fs[0]?.getD []).length c0 (fs[0]?.getD []) y (k3.below hA.below hB) (Nat.le_trans hB hA.size)) (by kernel_rfl) fun w6 hb6 hA => ?_
              by_cases hy0 : y ∈ (fs[0]?.getD [])
              case pos =>
                refine revals hA (rc 71 (show .bool (decide (y ∈ (fs[0]?.getD []))) = .bool true by rw [decide_eq_true hy0]) rn) (by kernel_rfl) fun hA => ?_
                refine runS hA 18 (List.replicate 6 (.g true)) xn (oc (rfl : Value.bool true = .bool true) (oc (rfl : Value.bool true = .bool true) (oc (rfl : Value.bool true = .bool true) (oc (rfl : Value.bool true = .bool true) (oc (rfl : Value.bool true = .bool true) (oc (rfl : Value.bool true = .bool true) on)))))) (by kernel_rfl) fun w7 hA => ?_
                exact ret (v := .bool true) hA [] (by kernel_rfl) ⟨by rw [show winB b fs x y = true by simp [winB, ha, hk0, hk1, hk2, hne, hx0, hy0]], hA.below⟩
              case neg =>
                refine revals hA (rc 71 (show .bool (decide (y ∈ (fs[0]?.getD []))) = .bool false by rw [decide_eq_false hy0]) rn) (by kernel_rfl) fun hA => ?_
                refine runS hA 18 ([.g true, .g true] ++ List.replicate 8 (.g false) ++ [.g true]) xn (oc (rfl : Value.bool true = .bool true) (oc (rfl : Value.bool true = .bool true) (oc (rfl : Value.bool false = .bool false) (oc (rfl : Value.bool false = .bool false) (oc (rfl : Value.bool false = .bool false) (oc (rfl : Value.bool false = .bool false) (oc (rfl : Value.bool false = .bool false) (oc (rfl : Value.bool false = .bool false) (oc (rfl : Value.bool false = .bool false) (oc (rfl : Value.bool false = .bool false) (oc (rfl : Value.bool true = .bool true) on))))))))))) (by kernel_rfl) fun w7 hA => ?_
                exact ret (v := .bool false) hA [] (by kernel_rfl) ⟨by rw [show winB b fs x y = false by simp [winB, ha, hk0, hk1, hk2, hne, hx0, hy0]], hA.below⟩
            case neg =>
              refine revals hA (rc 61 (show .bool (decide (x ∈ (fs[0]?.getD []))) = .bool false by rw [decide_eq_false hx0]) rn) (by kernel_rfl) fun hA => ?_
              refine runS hA 28 (List.replicate 6 (.g false)) xn (oc (rfl : Value.bool false = .bool false) (oc (rfl : Value.bool false = .bool false) (oc (rfl : Value.bool false = .bool false) (oc (rfl : Value.bool false = .bool false) (oc (rfl : Value.bool false = .bool false) (oc (rfl : Value.bool false = .bool false) on)))))) (by kernel_rfl) fun w5 hA => ?_
              exact ret (v := .bool false) hA [] (by kernel_rfl) ⟨by rw [show winB b fs x y = false by simp [winB, ha, hk0, hk1, hk2, hne, hx0]], hA.below⟩
          case neg =>
            refine revals hA (rc 55 (ne_f (Classical.not_not.1 hne)) rn) (by kernel_rfl) fun hA => ?_
            refine runS hA 34 (List.replicate 11 (.g false)) xn (oc (rfl : Value.bool false = .bool false) (oc (rfl : Value.bool false = .bool false) (oc (rfl : Value.bool false = .bool false) (oc (rfl : Value.bool false = .bool false) (oc (rfl : Value.bool false = .bool false) (oc (rfl : Value.bool false = .bool false) (oc (rfl : Value.bool false = .bool false) (oc (rfl : Value.bool false = .bool false) (oc (rfl : Value.bool false = .bool false) (oc (rfl : Value.bool false = .bool false) (oc (rfl : Value.bool false = .bool false) on))))))))))) (by kernel_rfl) fun w3 hA => ?_
            exact ret (v := .bool false) hA [] (by kernel_rfl) ⟨by rw [show winB b fs x y = false by simp [winB, ha, hk0, hk1, hk2, hne]], hA.below⟩
        case neg =>
          refine runS hA 35 [.k 0, .b false, .b false, .b false] xn (oc (eq_f hk0) (oc (eq_f hk1) (oc (eq_f hk2) on))) (by kernel_rfl) fun w2 hA => ?_
          refine draw hA [true] [0, 1, 2, 3, 4, 5, 6, 7, 8, 9, 10, 11] (by kernel_rfl) (by kernel_rfl) fun hA => ?_
          refine runS hA 8 [.t 0, .t 1, .i, .t 2, .x (.slice A0 ((fs[0]?.getD []).length) c0), .t 3, .t 5, .t 6, .i, .t 7, .x (.slice A0 ((fs[0]?.getD []).length) c0), .t 8] (xc (a := ⟨b0, off0, none⟩) ⟨hb9, k1'⟩ (xc (a := ⟨b0, off0, none⟩) ⟨hb9, k1'⟩ xn)) (oc (show (0 : Int) ≤ (0 : Int) ∧ (0 : Int) < (nf : Int) by omega) (oc (show (0 : Int) ≤ (0 : Int) ∧ (0 : Int) < (nf : Int) by omega) on)) (by kernel_rfl) fun w3 hA => ?_
          have hA0IW := hA
          refine latK hA0IW [4, 9, 10, 11] (γ := Unit) (fun _ => [(1, .slice (some ⟨b0, off0, none⟩) nf cf), (2, .int .i64 x), (3, .int .i64 y), (8, .bool false), (9, .bool false), (10, .bool (decide (x ∈ (fs[0]?.getD [])))), (11, .bool (decide (y ∈ (fs[0]?.getD []))))]) (fun _ => [⟨w.heap.size, .cells #[.int .i64 b.kind, .int .i64 b.runners, .slice A n c, .slice A2 m c2, .bool b.fav, .int .i64 b.car, .int .i64 b.dut, .int .i64 b.stp] 25 (0, 0)⟩]) (fun _ => []) (fun _ _ => True) (fun hIW4_9 => ?_) ?_
          ·
            refine latS hA0IW [4] (γ := Unit) (fun _ => [(1, .slice (some ⟨b0, off0, none⟩) nf cf), (2, .int .i64 x), (3, .int .i64 y), (8, .bool false), (9, .bool false), (84, .slice (some ⟨b0, off0, none⟩) nf cf), (85, .pointer (some ⟨b0, off0, none⟩)), (86, .slice A0 ((fs[0]?.getD []).length) c0), (87, .int .i64 x), (88, .bool (decide (x ∈ (fs[0]?.getD [])))), (89, .slice (some ⟨b0, off0, none⟩) nf cf), (90, .pointer (some ⟨b0, off0, none⟩)), (91, .slice A0 ((fs[0]?.getD []).length) c0), (92, .int .i64 y)]) (fun _ => [⟨w.heap.size, .cells #[.int .i64 b.kind, .int .i64 b.runners, .slice A n c, .slice A2 m c2, .bool b.fav, .int .i64 b.car, .int .i64 b.dut, .int .i64 b.stp] 25 (0, 0)⟩]) (fun _ => []) (fun _ _ => True) ?_ (fun hIW4 => ?_)
            · rintro _ wl4 _ hA
              refine callB hA [] on (has_any wl4 B A0 (fs[0]?.getD []).length c0 (fs[0]?.getD []) y (k3.below hA.below hB) (Nat.le_trans hB hA.size)) (by kernel_rfl) fun w105 hb105 hA => ?_
              refine runS hA 2 [.t 10, .t 11] xn on (by kernel_rfl) fun w106 hA => ?_
              exact joinE hIW4_9 () trivial [0] hA rfl (by kernel_rfl) (by decide)
            replace hA := hA0IW
            refine callB hA [] on (has_any w3 B A0 (fs[0]?.getD []).length c0 (fs[0]?.getD []) x (k3.below hA.below hB) (Nat.le_trans hB hA.size)) (by kernel_rfl) fun w5 hb5 hA => ?_
            exact joinE hIW4 () trivial [0] hA rfl (by kernel_rfl) (by decide)
          rintro _ w54 _ hA
          refine runS hA 7 [.b true] xn on (by kernel_rfl) fun w55 hA => ?_
          by_cases hx0 : x ∈ (fs[0]?.getD [])
          case pos =>
            by_cases hy0 : y ∈ (fs[0]?.getD [])
            case pos =>
              by_cases hlt : x < y
              case pos =>
                refine revals hA (rc 10 (show .bool (decide (x ∈ (fs[0]?.getD []))) = .bool true by rw [decide_eq_true hx0]) (rc 11 (show .bool (decide (y ∈ (fs[0]?.getD []))) = .bool true by rw [decide_eq_true hy0]) (rc 96 (dec_t hlt) rn))) (by kernel_rfl) fun hA => ?_
                refine runS hA 37 (List.replicate 13 (.g true)) xn (oc (rfl : Value.bool true = .bool true) (oc (rfl : Value.bool true = .bool true) (oc (rfl : Value.bool true = .bool true) (oc (rfl : Value.bool true = .bool true) (oc (rfl : Value.bool true = .bool true) (oc (rfl : Value.bool true = .bool true) (oc (rfl : Value.bool true = .bool true) (oc (rfl : Value.bool true = .bool true) (oc (rfl : Value.bool true = .bool true) (oc (rfl : Value.bool true = .bool true) (oc (rfl : Value.bool true = .bool true) (oc (rfl : Value.bool true = .bool true) (oc (rfl : Value.bool true = .bool true) on))))))))))))) (by kernel_rfl) fun w56 hA => ?_
                exact ret (v := .bool true) hA [] (by kernel_rfl) ⟨by rw [show winB b fs x y = true by simp [winB, ha, hk0, hk1, hk2, hx0, hy0, hlt]], hA.below⟩
              case neg =>
                refine revals hA (rc 10 (show .bool (decide (x ∈ (fs[0]?.getD []))) = .bool true by rw [decide_eq_true hx0]) (rc 11 (show .bool (decide (y ∈ (fs[0]?.getD []))) = .bool true by rw [decide_eq_true hy0]) (rc 96 (dec_f hlt) rn))) (by kernel_rfl) fun hA => ?_
                refine runS hA 37 (List.replicate 8 (.g false)) xn (oc (rfl : Value.bool false = .bool false) (oc (rfl : Value.bool false = .bool false) (oc (rfl : Value.bool false = .bool false) (oc (rfl : Value.bool false = .bool false) (oc (rfl : Value.bool false = .bool false) (oc (rfl : Value.bool false = .bool false) (oc (rfl : Value.bool false = .bool false) (oc (rfl : Value.bool false = .bool false) on)))))))) (by kernel_rfl) fun w56 hA => ?_
                exact ret (v := .bool false) hA [] (by kernel_rfl) ⟨by rw [show winB b fs x y = false by simp [winB, ha, hk0, hk1, hk2, hx0, hy0, hlt]], hA.below⟩
            case neg =>
              by_cases hlt : x < y
              case pos =>
                refine revals hA (rc 10 (show .bool (decide (x ∈ (fs[0]?.getD []))) = .bool true by rw [decide_eq_true hx0]) (rc 11 (show .bool (decide (y ∈ (fs[0]?.getD []))) = .bool false by rw [decide_eq_false hy0]) (rc 96 (dec_t hlt) rn))) (by kernel_rfl) fun hA => ?_
                refine runS hA 37 (List.replicate 9 (.g true) ++ List.replicate 8 (.g false) ++ [.g true]) xn (oc (rfl : Value.bool true = .bool true) (oc (rfl : Value.bool true = .bool true) (oc (rfl : Value.bool true = .bool true) (oc (rfl : Value.bool true = .bool true) (oc (rfl : Value.bool true = .bool true) (oc (rfl : Value.bool true = .bool true) (oc (rfl : Value.bool true = .bool true) (oc (rfl : Value.bool true = .bool true) (oc (rfl : Value.bool true = .bool true) (oc (rfl : Value.bool false = .bool false) (oc (rfl : Value.bool false = .bool false) (oc (rfl : Value.bool false = .bool false) (oc (rfl : Value.bool false = .bool false) (oc (rfl : Value.bool false = .bool false) (oc (rfl : Value.bool false = .bool false) (oc (rfl : Value.bool false = .bool false) (oc (rfl : Value.bool false = .bool false) (oc (rfl : Value.bool true = .bool true) on)))))))))))))))))) (by kernel_rfl) fun w56 hA => ?_
                exact ret (v := .bool false) hA [] (by kernel_rfl) ⟨by rw [show winB b fs x y = false by simp [winB, ha, hk0, hk1, hk2, hx0, hy0, hlt]], hA.below⟩
              case neg =>
                refine revals hA (rc 10 (show .bool (decide (x ∈ (fs[0]?.getD []))) = .bool true by rw [decide_eq_true hx0]) (rc 11 (show .bool (decide (y ∈ (fs[0]?.getD []))) = .bool false by rw [decide_eq_false hy0]) (rc 96 (dec_f hlt) rn))) (by kernel_rfl) fun hA => ?_
                refine runS hA 37 (List.replicate 8 (.g false)) xn (oc (rfl : Value.bool false = .bool false) (oc (rfl : Value.bool false = .bool false) (oc (rfl : Value.bool false = .bool false) (oc (rfl : Value.bool false = .bool false) (oc (rfl : Value.bool false = .bool false) (oc (rfl : Value.bool false = .bool false) (oc (rfl : Value.bool false = .bool false) (oc (rfl : Value.bool false = .bool false) on)))))))) (by kernel_rfl) fun w56 hA => ?_
                exact ret (v := .bool false) hA [] (by kernel_rfl) ⟨by rw [show winB b fs x y = false by simp [winB, ha, hk0, hk1, hk2, hx0, hy0, hlt]], hA.below⟩
          case neg =>
            by_cases hy0 : y ∈ (fs[0]?.getD [])
            case pos =>
              by_cases hlt : x < y
              case pos =>
                refine revals hA (rc 10 (show .bool (decide (x ∈ (fs[0]?.getD []))) = .bool false by rw [decide_eq_false hx0]) (rc 11 (show .bool (decide (y ∈ (fs[0]?.getD []))) = .bool true by rw [decide_eq_true hy0]) (rc 96 (dec_t hlt) rn))) (by kernel_rfl) fun hA => ?_
                refine runS hA 37 (List.replicate 6 (.g true) ++ [.g false, .g true, .g true] ++ List.replicate 8 (.g false) ++ [.g true]) xn (oc (rfl : Value.bool true = .bool true) (oc (rfl : Value.bool true = .bool true) (oc (rfl : Value.bool true = .bool true) (oc (rfl : Value.bool true = .bool true) (oc (rfl : Value.bool true = .bool true) (oc (rfl : Value.bool true = .bool true) (oc (rfl : Value.bool false = .bool false) (oc (rfl : Value.bool true = .bool true) (oc (rfl : Value.bool true = .bool true) (oc (rfl : Value.bool false = .bool false) (oc (rfl : Value.bool false = .bool false) (oc (rfl : Value.bool false = .bool false) (oc (rfl : Value.bool false = .bool false) (oc (rfl : Value.bool false = .bool false) (oc (rfl : Value.bool false = .bool false) (oc (rfl : Value.bool false = .bool false) (oc (rfl : Value.bool false = .bool false) (oc (rfl : Value.bool true = .bool true) on)))))))))))))))))) (by kernel_rfl) fun w56 hA => ?_
                exact ret (v := .bool false) hA [] (by kernel_rfl) ⟨by rw [show winB b fs x y = false by simp [winB, ha, hk0, hk1, hk2, hx0, hy0, hlt]], hA.below⟩
              case neg =>
                refine revals hA (rc 10 (show .bool (decide (x ∈ (fs[0]?.getD []))) = .bool false by rw [decide_eq_false hx0]) (rc 11 (show .bool (decide (y ∈ (fs[0]?.getD []))) = .bool true by rw [decide_eq_true hy0]) (rc 96 (dec_f hlt) rn))) (by kernel_rfl) fun hA => ?_
                refine runS hA 37 (List.replicate 8 (.g false)) xn (oc (rfl : Value.bool false = .bool false) (oc (rfl : Value.bool false = .bool false) (oc (rfl : Value.bool false = .bool false) (oc (rfl : Value.bool false = .bool false) (oc (rfl : Value.bool false = .bool false) (oc (rfl : Value.bool false = .bool false) (oc (rfl : Value.bool false = .bool false) (oc (rfl : Value.bool false = .bool false) on)))))))) (by kernel_rfl) fun w56 hA => ?_
                exact ret (v := .bool false) hA [] (by kernel_rfl) ⟨by rw [show winB b fs x y = false by simp [winB, ha, hk0, hk1, hk2, hx0, hy0, hlt]], hA.below⟩
            case neg =>
              by_cases hlt : x < y
              case pos =>
                refine revals hA (rc 10 (show .bool (decide (x ∈ (fs[0]?.getD []))) = .bool false by rw [decide_eq_false hx0]) (rc 11 (show .bool (decide (y ∈ (fs[0]?.getD []))) = .bool false by rw [decide_eq_false hy0]) (rc 96 (dec_t hlt) rn))) (by kernel_rfl) fun hA => ?_
                refine runS hA 37 (List.replicate 6 (.g true) ++ [.g false, .g true, .g true] ++ List.replicate 8 (.g false) ++ [.g true]) xn (oc (rfl : Value.bool true = .bool true) (oc (rfl : Value.bool true = .bool true) (oc (rfl : Value.bool true = .bool true) (oc (rfl : Value.bool true = .bool true) (oc (rfl : Value.bool true = .bool true) (oc (rfl : Value.bool true = .bool true) (oc (rfl : Value.bool false = .bool false) (oc (rfl : Value.bool true = .bool true) (oc (rfl : Value.bool true = .bool true) (oc (rfl : Value.bool false = .bool false) (oc (rfl : Value.bool false = .bool false) (oc (rfl : Value.bool false = .bool false) (oc (rfl : Value.bool false = .bool false) (oc (rfl : Value.bool false = .bool false) (oc (rfl : Value.bool false = .bool false) (oc (rfl : Value.bool false = .bool false) (oc (rfl : Value.bool false = .bool false) (oc (rfl : Value.bool true = .bool true) on)))))))))))))))))) (by kernel_rfl) fun w56 hA => ?_
                exact ret (v := .bool false) hA [] (by kernel_rfl) ⟨by rw [show winB b fs x y = false by simp [winB, ha, hk0, hk1, hk2, hx0, hy0, hlt]], hA.below⟩
              case neg =>
                refine revals hA (rc 10 (show .bool (decide (x ∈ (fs[0]?.getD []))) = .bool false by rw [decide_eq_false hx0]) (rc 11 (show .bool (decide (y ∈ (fs[0]?.getD []))) = .bool false by rw [decide_eq_false hy0]) (rc 96 (dec_f hlt) rn))) (by kernel_rfl) fun hA => ?_
                refine runS hA 37 (List.replicate 8 (.g false)) xn (oc (rfl : Value.bool false = .bool false) (oc (rfl : Value.bool false = .bool false) (oc (rfl : Value.bool false = .bool false) (oc (rfl : Value.bool false = .bool false) (oc (rfl : Value.bool false = .bool false) (oc (rfl : Value.bool false = .bool false) (oc (rfl : Value.bool false = .bool false) (oc (rfl : Value.bool false = .bool false) on)))))))) (by kernel_rfl) fun w56 hA => ?_
                exact ret (v := .bool false) hA [] (by kernel_rfl) ⟨by rw [show winB b fs x y = false by simp [winB, ha, hk0, hk1, hk2, hx0, hy0, hlt]], hA.below⟩
end Go.Proofs.Ytkliekipopnibaa

/- quinellaref03: WinnersOf, Winners. -/
namespace Go.Proofs.Ytkliekipopnibaa
open Go.RowKit Go.Shelf

/-- The pairs of a first runner with the first j second ones (none, 0, 1 ..) that win; those of the first k first ones. -/
def rowR (b : Bk) (fs : List (List Int)) (one : Int) : Nat → List (Int × Int)
  | 0 => []
  | j + 1 => rowR b fs one j ++ if winB b fs one ((j : Int) - 1) = true then [(one, (j : Int) - 1)] else []
def allR (b : Bk) (fs : List (List Int)) (R : Nat) : Nat → List (Int × Int)
  | 0 => []
  | k + 1 => allR b fs R k ++ rowR b fs (k : Int) (R + 1)
theorem rowR_len (b : Bk) (fs : List (List Int)) (one : Int) : ∀ j, (rowR b fs one j).length ≤ j
  | 0 => Nat.le_refl _
  | j + 1 => by
    have := rowR_len b fs one j
    rw [rowR, List.length_append]
    split <;> simp <;> omega
theorem allR_len (b : Bk) (fs : List (List Int)) (R : Nat) : ∀ k, (allR b fs R k).length ≤ k * (R + 1)
  | 0 => Nat.zero_le _
  | k + 1 => by
    have h1 := allR_len b fs R k
    have h2 := rowR_len b fs (k : Int) (R + 1)
    rw [allR, List.length_append, Nat.succ_mul]
    omega
theorem rowR_mem (b : Bk) (fs : List (List Int)) (one : Int) {p : Int × Int} : ∀ {j : Nat}, p ∈ rowR b fs one j ↔ (p.1 = one ∧ -1 ≤ p.2 ∧ p.2 < (j : Int) - 1) ∧ winB b fs p.1 p.2 = true
  | 0 => by simp [rowR]; omega
  | j + 1 => by
    rw [rowR, List.mem_append, rowR_mem b fs one (j := j)]
    obtain ⟨x, y⟩ := p
    by_cases h : winB b fs one ((j : Int) - 1) = true
    · rw [if_pos h, List.mem_singleton, Prod.mk.injEq]
      constructor
      · rintro (⟨h1, h2⟩ | ⟨rfl, rfl⟩)
        · exact ⟨by simp only at h1 ⊢; omega, h2⟩
        · exact ⟨⟨rfl, show -1 ≤ (j : Int) - 1 by omega, show (j : Int) - 1 < ((j + 1 : Nat) : Int) - 1 by omega⟩, h⟩
      · rintro ⟨⟨h1, h2, h3⟩, h4⟩
        simp only at h1 h2 h3 h4
        subst h1
        by_cases hy : y = (j : Int) - 1
        · exact .inr ⟨rfl, hy⟩
        · exact .inl ⟨⟨rfl, h2, by simp only; omega⟩, h4⟩
    · rw [if_neg h]
      simp only [List.not_mem_nil, or_false]
      constructor
      · rintro ⟨⟨h1, h2, h3⟩, h4⟩
        exact ⟨⟨h1, h2, by omega⟩, h4⟩
      · rintro ⟨⟨h1, h2, h3⟩, h4⟩
        refine ⟨⟨h1, h2, ?_⟩, h4⟩
        by_cases hy : y = (j : Int) - 1
        · subst hy; subst h1; exact absurd h4 h
        · omega
theorem allR_mem (b : Bk) (fs : List (List Int)) (R : Nat) {p : Int × Int} : ∀ {k : Nat}, p ∈ allR b fs R k ↔ ((0 ≤ p.1 ∧ p.1 < (k : Int)) ∧ -1 ≤ p.2 ∧ p.2 < (R : Int)) ∧ winB b fs p.1 p.2 = true
  | 0 => by simp [allR]; omega
  | k + 1 => by
    rw [allR, List.mem_append, allR_mem b fs R (k := k), rowR_mem]
    constructor
    · rintro (⟨h1, h2⟩ | ⟨h1, h2⟩)
      · exact ⟨by omega, h2⟩
      · exact ⟨by omega, h2⟩
    · rintro ⟨h1, h2⟩
      by_cases hp : p.1 = (k : Int)
      · exact .inr ⟨by omega, h2⟩
      · exact .inl ⟨by omega, h2⟩
def lexB (p q : Int × Int) : Prop := p.1 < q.1 ∨ p.1 = q.1 ∧ p.2 < q.2
theorem rowR_pw (b : Bk) (fs : List (List Int)) (one : Int) : ∀ j, (rowR b fs one j).Pairwise lexB
  | 0 => List.Pairwise.nil
  | j + 1 => by
    rw [rowR, List.pairwise_append]
    refine ⟨rowR_pw b fs one j, by split <;> simp, fun p hp q hq => ?_⟩
    have h1 := ((rowR_mem b fs one).1 hp).1
    split at hq
    · rw [List.mem_singleton.1 hq]
      exact .inr ⟨h1.1, by simp only; omega⟩
    · cases hq
theorem allR_pw (b : Bk) (fs : List (List Int)) (R : Nat) : ∀ k, (allR b fs R k).Pairwise lexB
  | 0 => List.Pairwise.nil
  | k + 1 => by
    rw [allR, List.pairwise_append]
    refine ⟨allR_pw b fs R k, rowR_pw b fs _ _, fun p hp q hq => ?_⟩
    have h1 := ((allR_mem b fs R).1 hp).1
    have h2 := ((rowR_mem b fs _).1 hq).1
    exact .inl (by omega)
theorem lex_ext {xs ys : List (Int × Int)} (hx : xs.Pairwise lexB) (hy : ys.Pairwise lexB) (h : ∀ p, p ∈ xs ↔ p ∈ ys) : xs = ys := by
  have ne : ∀ p q : Int × Int, lexB p q → p ≠ q := fun p q h e => by subst e; unfold lexB at h; omega
  refine List.Perm.eq_of_pairwise (le := lexB) (fun p q _ _ h1 h2 => ?_) hx hy ?_
  · unfold lexB at h1 h2; omega
  · exact (List.perm_ext_iff_of_nodup (hx.imp fun h => ne _ _ h) (hy.imp fun h => ne _ _ h)).2 h
theorem sinF_pw {xs : List Int} (h : xs.Pairwise fun x y => x < y) : (sinF xs).Pairwise lexB := by
  unfold sinF
  rw [List.pairwise_map]
  exact h.imp fun h => .inl h
theorem prsF_mem (p : Int × Int → Bool) (xs : List Int) (q : Int × Int) : q ∈ prsF p xs ↔ (q.1 ∈ xs ∧ q.2 ∈ xs) ∧ p q = true := by
  unfold prsF rowW
  rw [List.mem_flatMap]
  constructor
  · rintro ⟨a, ha, h⟩
    rw [List.mem_filter, List.mem_map] at h
    obtain ⟨⟨c, hc, rfl⟩, hp⟩ := h
    exact ⟨⟨ha, hc⟩, hp⟩
  · rintro ⟨⟨h1, h2⟩, h3⟩
    refine ⟨q.1, h1, ?_⟩
    rw [List.mem_filter, List.mem_map]
    exact ⟨⟨q.2, h2, rfl⟩, h3⟩
theorem rowW_pw (p : Int × Int → Bool) {ys : List Int} (h : ys.Pairwise fun x y => x < y) (a : Int) : (rowW p ys a).Pairwise lexB := by
  unfold rowW
  refine List.Pairwise.filter _ ?_
  rw [List.pairwise_map]
  exact h.imp fun h => .inr ⟨rfl, h⟩
theorem prsF_pw (p : Int × Int → Bool) {xs : List Int} (h : xs.Pairwise fun x y => x < y) : (prsF p xs).Pairwise lexB := by
  unfold prsF
  have key : ∀ ys : List Int, ys.Pairwise (fun x y => x < y) → (ys.flatMap fun one => rowW p xs one).Pairwise lexB := by
    intro ys
    induction ys with
    | nil => intro _; exact List.Pairwise.nil
    | cons y ys ih =>
      intro hy
      rw [List.pairwise_cons] at hy
      rw [List.flatMap_cons, List.pairwise_append]
      refine ⟨rowW_pw p h y, ih hy.2, fun q hq r hr => ?_⟩
      unfold rowW at hq
      rw [List.mem_filter, List.mem_map] at hq
      obtain ⟨⟨c, -, rfl⟩, -⟩ := hq
      rw [List.mem_flatMap] at hr
      obtain ⟨z, hz, hr⟩ := hr
      unfold rowW at hr
      rw [List.mem_filter, List.mem_map] at hr
      obtain ⟨⟨d, -, rfl⟩, -⟩ := hr
      exact .inl (hy.1 z hz)
  exact key xs h
theorem remF_sub : ∀ (F co c : List Int), co.Nodup → remF co F = some c → (∀ x ∈ F, x ∈ co) ∧ (∀ x, x ∈ c ↔ x ∈ co ∧ x ∉ F) ∧ c.Nodup
  | [], co, c, hn, h => by
    rw [remF] at h
    cases h
    exact ⟨fun x hx => (List.not_mem_nil hx).elim, fun x => by simp, hn⟩
  | r :: F, co, c, hn, h => by
    by_cases hr : r ∈ co
    · obtain ⟨c2, h1, h2, h3, -⟩ := remF_step hr hn
      rw [h1] at h
      obtain ⟨k1, k2, k3⟩ := remF_sub F c2 c h2 h
      refine ⟨fun x hx => ?_, fun x => ?_, k3⟩
      · rcases List.mem_cons.1 hx with rfl | hx
        · exact hr
        · exact ((h3 x).1 (k1 x hx)).1
      · rw [k2, h3, List.mem_cons]
        exact ⟨fun h => ⟨h.1.1, fun h9 => h9.elim h.1.2 h.2⟩, fun h => ⟨⟨h.1, fun h9 => h.2 (.inl h9)⟩, fun h9 => h.2 (.inr h9)⟩⟩
    · rw [remF_stop hr] at h; cases h
theorem grpF_sub : ∀ (fs : List (List Int)) (co c : List Int), co.Nodup → grpF co fs = some c → (∀ F ∈ fs, F.length ≠ 0 ∧ incF F = true ∧ ∀ x ∈ F, x ∈ co) ∧ fs.Pairwise (fun F G => ∀ x ∈ F, x ∉ G)
  | [], co, c, hn, h => ⟨fun F hF => (List.not_mem_nil hF).elim, List.Pairwise.nil⟩
  | F :: fs, co, c, hn, h => by
    rw [grpF] at h
    split at h
    · cases h
    · rename_i h0
      cases hr : remF co F with
      | none => rw [hr] at h; cases h
      | some c2 =>
        rw [hr, Option.bind_some] at h
        obtain ⟨k1, k2, k3⟩ := remF_sub F co c2 hn hr
        obtain ⟨i1, i2⟩ := grpF_sub fs c2 c k3 h
        refine ⟨fun G hG => ?_, List.pairwise_cons.2 ⟨fun G hG x hx hxG => ?_, i2⟩⟩
        · rcases List.mem_cons.1 hG with rfl | hG
          · refine ⟨fun e => h0 (.inl e), ?_, k1⟩
            cases hi : incF G with
            | true => rfl
            | false => exact absurd (.inr hi) h0
          · obtain ⟨a1, a2, a3⟩ := i1 G hG
            exact ⟨a1, a2, fun x hx => ((k2 x).1 (a3 x hx)).1⟩
        · exact ((k2 x).1 ((i1 G hG).2.2 x hxG)).2 hx
theorem fin_sub {b : Bk} {fs : List (List Int)} (h : isFinF b fs = true) : (∀ F ∈ fs, F.length ≠ 0 ∧ incF F = true ∧ ∀ x ∈ F, x ∈ racN b) ∧ fs.Pairwise (fun F G => ∀ x ∈ F, x ∉ G) :=
  grpF_sub fs _ _ (racN_nodup b) (of_decide_eq_true h)
theorem srtF_pw {xs : List Int} (h : xs.Nodup) : (srtF xs).Pairwise fun x y => x < y := by
  unfold srtF
  have h1 : (xs.mergeSort fun x y => decide (x ≤ y)).Pairwise fun x y => decide (x ≤ y) = true := List.pairwise_mergeSort (fun a c d h1 h2 => by simp at h1 h2 ⊢; omega) (fun a c => by simp; omega) xs
  have h2 : (xs.mergeSort fun x y => decide (x ≤ y)).Nodup := (List.mergeSort_perm xs _).nodup_iff.2 h
  exact (h1.and h2).imp fun ⟨h3, h4⟩ => by simp at h3; have h4 : _ ≠ _ := h4; omega
theorem srtF_mem {xs : List Int} {x : Int} : x ∈ srtF xs ↔ x ∈ xs := (List.mergeSort_perm xs _).mem_iff
theorem grp_at {fs : List (List Int)} {i : Nat} {F : List Int} (hi : i < fs.length) (h : F = fs[i]?.getD []) : F ∈ fs := by
  rw [h, List.getElem?_eq_getElem hi]
  exact List.getElem_mem _
/-- Who is placed, in order. -/
theorem pla_facts {b : Bk} {fs : List (List Int)} (V : ValidB b) (h : isFinF b fs = true) : (plaF fs).Pairwise (fun x y => x < y) ∧ ∀ x, x ∈ plaF fs ↔ x ∈ fs[0]?.getD [] ∨ (fs[0]?.getD []).length = 1 ∧ x ∈ fs[1]?.getD [] := by
  have K := fin_ok V h
  obtain ⟨h1, h2⟩ := fin_sub h
  have g0 := h1 _ (grp_at K.pos rfl)
  unfold plaF
  by_cases ha : (fs[0]?.getD []).length = 1
  · rw [if_pos ha]
    have hl := (K.one ha).1
    have g1 := h1 _ (grp_at hl rfl)
    refine ⟨srtF_pw ?_, fun x => ?_⟩
    · rw [List.nodup_append]
      refine ⟨(incF_pw g0.2.1).imp fun h => by omega, (incF_pw g1.2.1).imp fun h => by omega, fun x hx y hy e => ?_⟩
      subst e
      have := List.pairwise_iff_getElem.1 h2 0 1 K.pos hl (by decide)
      rw [List.getElem?_eq_getElem K.pos] at hx
      rw [List.getElem?_eq_getElem hl] at hy
      exact this x hx hy
    · rw [srtF_mem, List.mem_append]
      exact ⟨fun h => h.imp id fun h => ⟨ha, h⟩, fun h => h.imp id fun h => h.2⟩
  · rw [if_neg ha]
    exact ⟨incF_pw g0.2.1, fun x => ⟨.inl, fun h => h.elim id fun h => absurd h.1 ha⟩⟩
theorem one_mem {xs : List Int} (h : xs.length = 1) {x y : Int} (hx : x ∈ xs) (hy : y ∈ xs) : x = y := by
  obtain ⟨a, rfl⟩ := List.length_eq_one_iff.1 h
  rw [List.mem_singleton.1 hx, List.mem_singleton.1 hy]
theorem win_eq {b : Bk} {fs : List (List Int)} (V : ValidB b) (h : isFinF b fs = true) : allR b fs b.runners.toNat b.runners.toNat = winF b fs := by
  have hv := V.run
  have K := fin_ok V h
  obtain ⟨hp, hm⟩ := pla_facts V h
  obtain ⟨h1, -⟩ := fin_sub h
  have g0 := h1 _ (grp_at K.pos rfl)
  have hr : ∀ x, x ∈ racN b → 0 ≤ x ∧ x < b.runners := fun x hx => by have := (racL_mem b).1 hx; omega
  have r0 : ∀ x, x ∈ fs[0]?.getD [] → 0 ≤ x ∧ x < b.runners := fun x hx => hr x (g0.2.2 x hx)
  have r1 : (fs[0]?.getD []).length = 1 → ∀ x, x ∈ fs[1]?.getD [] → 0 ≤ x ∧ x < b.runners := fun ha x hx => hr x ((h1 _ (grp_at (K.one ha).1 rfl)).2.2 x hx)
  refine lex_ext (allR_pw b fs _ _) ?_ fun q => ?_
  · unfold winF
    split
    · exact sinF_pw (incF_pw g0.2.1)
    · split
      · exact sinF_pw hp
      · split
        · exact prsF_pw _ hp
        · exact prsF_pw _ hp
  · rw [allR_mem]
    obtain ⟨x, y⟩ := q
    have hR : ((b.runners.toNat : Nat) : Int) = b.runners := by omega
    rw [hR]
    unfold winF winB
    by_cases hk0 : b.kind = 0
    · rw [if_pos hk0, if_pos hk0]
      unfold sinF
      simp only [Bool.and_eq_true, decide_eq_true_eq, List.mem_map, Prod.mk.injEq]
      constructor
      · rintro ⟨-, rfl, hx⟩; exact ⟨x, hx, rfl, rfl⟩
      · rintro ⟨a, ha, rfl, rfl⟩; exact ⟨⟨r0 a ha, by omega, by omega⟩, rfl, ha⟩
    · rw [if_neg hk0, if_neg hk0]
      by_cases hk1 : b.kind = 1
      · rw [if_pos hk1, if_pos hk1]
        unfold sinF
        simp only [Bool.and_eq_true, Bool.or_eq_true, decide_eq_true_eq, List.mem_map, Prod.mk.injEq, hm]
        constructor
        · rintro ⟨-, rfl, hx⟩; exact ⟨x, hx, rfl, rfl⟩
        · rintro ⟨a, ha, rfl, rfl⟩; exact ⟨⟨ha.elim (r0 a) (fun h => r1 h.1 a h.2), by omega, by omega⟩, rfl, ha⟩
      · rw [if_neg hk1, if_neg hk1]
        have rng : ∀ z, (z ∈ fs[0]?.getD [] ∨ (fs[0]?.getD []).length = 1 ∧ z ∈ fs[1]?.getD []) → 0 ≤ z ∧ z < b.runners := fun z hz => hz.elim (r0 z) (fun h => r1 h.1 z h.2)
        by_cases hk2 : b.kind = 2
        · rw [if_pos hk2, if_pos hk2, prsF_mem]
          unfold pairF
          simp only [Bool.and_eq_true, decide_eq_true_eq, hm]
          by_cases ha : (fs[0]?.getD []).length = 1
          · rw [if_pos ha]
            simp only [decide_eq_true_eq]
            constructor
            · rintro ⟨-, ⟨hne, hx⟩, hy⟩; exact ⟨⟨.inl hx, .inr ⟨ha, hy⟩⟩, hne, hx⟩
            · rintro ⟨⟨hx', hy⟩, hne, hx⟩
              refine ⟨⟨rng x hx', by have := rng y hy; omega, (rng y hy).2⟩, ⟨hne, hx⟩, ?_⟩
              exact hy.elim (fun hy => absurd (one_mem ha hx hy) hne) (fun h => h.2)
          · rw [if_neg ha]
            simp only [decide_eq_true_eq]
            constructor
            · rintro ⟨-, ⟨hne, hx⟩, hy⟩; exact ⟨⟨.inl hx, .inl hy⟩, hne, hx⟩
            · rintro ⟨⟨hx', hy⟩, hne, hx⟩
              exact ⟨⟨rng x hx', by have := rng y hy; omega, (rng y hy).2⟩, ⟨hne, hx⟩, hy.elim id fun h => absurd h.1 ha⟩
        · rw [if_neg hk2, if_neg hk2, prsF_mem]
          unfold bothF
          simp only [Bool.and_eq_true, Bool.or_eq_true, decide_eq_true_eq, hm]
          by_cases ha : (fs[0]?.getD []).length = 1
          · rw [if_pos ha]
            simp only [Bool.and_eq_true, Bool.or_eq_true, decide_eq_true_eq]
            constructor
            · rintro ⟨-, hl, ⟨hx, hy⟩ | ⟨hy, hx⟩⟩
              · exact ⟨⟨.inl hx, .inr ⟨ha, hy⟩⟩, hl, .inl hx⟩
              · exact ⟨⟨.inr ⟨ha, hx⟩, .inl hy⟩, hl, .inr hy⟩
            · rintro ⟨⟨hx, hy⟩, hl, h01⟩
              refine ⟨⟨rng x hx, by have := rng y hy; omega, (rng y hy).2⟩, hl, ?_⟩
              rcases h01 with h0 | h0
              · exact .inl ⟨h0, hy.elim (fun hy => absurd (one_mem ha h0 hy) (by omega)) (fun h => h.2)⟩
              · exact .inr ⟨h0, hx.elim (fun hx => absurd (one_mem ha hx h0) (by omega)) (fun h => h.2)⟩
          · rw [if_neg ha]
            simp only [Bool.and_eq_true, decide_eq_true_eq]
            constructor
            · rintro ⟨-, hl, hx, hy⟩; exact ⟨⟨.inl hx, .inl hy⟩, hl, .inl hx⟩
            · rintro ⟨⟨hx, hy⟩, hl, -⟩
              exact ⟨⟨rng x hx, by have := rng y hy; omega, (rng y hy).2⟩, hl, hx.elim id fun h => absurd h.1 ha, hy.elim id fun h => absurd h.1 ha⟩
theorem encW_app (xs ys : List (Int × Int)) : encW (xs ++ ys) = encW xs ++ encW ys := by unfold encW; exact List.flatMap_append
set_option maxHeartbeats 4000000 in
set_option maxRecDepth 20000 in
theorem winnersOf_any (w : World) (B : Nat) (b : Bk) (A : Option Addr) (n c : Nat) (A2 : Option Addr) (m c2 : Nat) (A3 : Option Addr) (nf cf : Nat) (fs : List (List Int)) (hf : FinAt w B A3 nf fs) (hB : B ≤ w.heap.size) (V : ValidB b) (K : FinOk b fs) : Calls Try.prog 61 #[bkV b A n c A2 m c2, .slice A3 nf cf] w fun e w' => ∃ v, e = .returned v ∧ Below w.heap.size w w' ∧ w'.ownsRow w.heap.size 69 2 v (allR b fs b.runners.toNat b.runners.toNat).length (encW (allR b fs b.runners.toNat b.runners.toNat)) := by
  have hv1 := V.run
  refine enter 32 Try.func61 (by kernel_rfl) fun hA => ?_
  refine runS hA 18 [] xn on (by kernel_rfl) fun w1 hA => ?_
  obtain ⟨R, hR⟩ : ∃ R : Nat, b.runners = (R : Int) := ⟨b.runners.toNat, by omega⟩
  have hRt : b.runners.toNat = R := by omega
  refine loop (γ := Nat × Option Addr × Nat × List KB) (fun ⟨k, Av, cv, ov⟩ => [(1, .slice A3 nf cf), (2, .pointer (some ⟨w.heap.size, 0, none⟩)), (4, .slice none 0 0), (5, .slice Av ((allR b fs R k).length) cv), (6, .int .i64 (k : Int))]) (fun ⟨k, Av, cv, ov⟩ => [⟨w.heap.size, .cells #[.int .i64 b.kind, .int .i64 b.runners, .slice A n c, .slice A2 m c2, .bool b.fav, .int .i64 b.car, .int .i64 b.dut, .int .i64 b.stp] 25 (0, 0)⟩]) (fun ⟨k, Av, cv, ov⟩ => ov ++ []) (fun g ⟨k, Av, cv, ov⟩ wr => (k ≤ R ∧ g = R - k) ∧ RowV 69 2 (.slice Av (allR b fs R k).length cv) (allR b fs R k).length (encW (allR b fs R k)) ov) R ⟨0, none, 0, []⟩ [true] hA (by kernel_rfl) (⟨⟨Nat.zero_le _, rfl⟩, RowV.nil _ _⟩) ?_
  rintro _ ⟨k, Av, cv, ov⟩ wr ⟨⟨hk, rfl⟩, hrk⟩ J hJ hA
  by_cases hlk : k < R
  case neg =>
    refine runS hA 12 [.k 0, .b false] xn (oc (dec_f (show ¬ (((k : Int) : Int) < (b.runners : Int)) by omega)) on) (by kernel_rfl) fun w2 hA => ?_
    refine leave hA (by kernel_rfl) fun hA => ?_
    refine runS hA 9 [] xn on (by kernel_rfl) fun w3 hA => ?_
    have hAf := hA.atK [⟨w.heap.size, .cells #[.int .i64 b.kind, .int .i64 b.runners, .slice A n c, .slice A2 m c2, .bool b.fav, .int .i64 b.car, .int .i64 b.dut, .int .i64 b.stp] 25 (0, 0)⟩] (by kernel_rfl)
    have hkR : k = R := by omega
    rw [hkR] at hrk
    exact ret (v := .slice Av ((allR b fs R k).length) cv) hA [] (by kernel_rfl) ⟨_, by rw [hkR], hA.below, by rw [hRt]; exact RowV.own (rest := []) hrk hAf⟩
  case pos =>
    have hJ1 := hJ
    refine runS hA 20 [.k 0, .b true] xn (oc (dec_t (show (((k : Int) : Int) < (b.runners : Int)) by omega)) on) (by kernel_rfl) fun w2 hA => ?_
    have hr0 : RowV 69 2 (.slice Av (allR b fs R k ++ rowR b fs (k : Int) 0).length cv) (allR b fs R k ++ rowR b fs (k : Int) 0).length (encW (allR b fs R k ++ rowR b fs (k : Int) 0)) ov := by rw [rowR, List.append_nil]; exact hrk
    refine revals hA (rc 5 (show .slice Av ((allR b fs R k).length) cv = .slice Av ((allR b fs R k ++ rowR b fs (k : Int) 0).length) cv by rw [rowR, List.append_nil]) rn) (by kernel_rfl) fun hA => ?_
    refine loop (γ := Nat × Option Addr × Nat × List KB) (fun ⟨j, Av, cv, ov⟩ => [(1, .slice A3 nf cf), (2, .pointer (some ⟨w.heap.size, 0, none⟩)), (4, .slice none 0 0), (5, .slice Av ((allR b fs R k ++ rowR b fs (k : Int) j).length) cv), (6, .int .i64 (k : Int)), (7, .int .i64 ((j : Int) - 1))]) (fun ⟨j, Av, cv, ov⟩ => [⟨w.heap.size, .cells #[.int .i64 b.kind, .int .i64 b.runners, .slice A n c, .slice A2 m c2, .bool b.fav, .int .i64 b.car, .int .i64 b.dut, .int .i64 b.stp] 25 (0, 0)⟩]) (fun ⟨j, Av, cv, ov⟩ => ov ++ []) (fun g ⟨j, Av, cv, ov⟩ wt => (j ≤ R + 1 ∧ g = R + 1 - j) ∧ RowV 69 2 (.slice Av (allR b fs R k ++ rowR b fs (k : Int) j).length cv) (allR b fs R k ++ rowR b fs (k : Int) j).length (encW (allR b fs R k ++ rowR b fs (k : Int) j)) ov) (R + 1) ⟨0, Av, cv, ov⟩ [true] hA (by kernel_rfl) (⟨⟨Nat.zero_le _, rfl⟩, hr0⟩) ?_
    rintro _ ⟨j, Av, cv, ov⟩ wt ⟨⟨hj, rfl⟩, hrj⟩ J hJ hA
    by_cases hlj : j < R + 1
    case neg =>
      refine runS hA 12 [.k 0, .b false] xn (oc (dec_f (show ¬ ((((j : Int) - 1) : Int) < (b.runners : Int)) by omega)) on) (by kernel_rfl) fun w3 hA => ?_
      refine leave hA (by kernel_rfl) fun hA => ?_
      refine runS hA 8 [] xn on (by kernel_rfl) fun w4 hA => ?_
      have hjR : j = R + 1 := by omega
      rw [hjR] at hrj
      refine revals hA (rc 5 (show .slice Av ((allR b fs R k ++ rowR b fs (k : Int) j).length) cv = .slice Av ((allR b fs R (k + 1)).length) cv by rw [hjR, allR]) (rc 6 (wr64 (x := (k : Int) + 1) (y := ((k + 1 : Nat) : Int)) (by omega) (by omega)) rn)) (by kernel_rfl) fun hA => ?_
      exact again hJ1 (R - (k + 1)) (⟨k + 1, Av, cv, ov⟩) [true] hA (by omega) (by kernel_rfl) (⟨⟨by omega, rfl⟩, hrj⟩)
    case pos =>
      refine runS hA 20 ([.k 0, .b true] ++ List.replicate 8 (.k 0)) xn (oc (dec_t (show ((((j : Int) - 1) : Int) < (b.runners : Int)) by omega)) on) (by kernel_rfl) fun w3 hA => ?_
      refine callB hA [] on (isWinner_any w3 B b A n c A2 m c2 A3 nf cf fs (k : Int) ((j : Int) - 1) (hf.below hA.below hB) (Nat.le_trans hB hA.size) K) (by kernel_rfl) fun w4 hb4 hA => ?_
      have hl1 := allR_len b fs R k
      have hl2 := rowR_len b fs (k : Int) j
      have hl3 : k * (R + 1) ≤ 8 * 9 := Nat.mul_le_mul (by omega) (by omega)
      rcases Bool.eq_false_or_eq_true (winB b fs (k : Int) ((j : Int) - 1)) with hw | hw
      ·
        refine revals hA (rc 24 (show .bool (winB b fs (k : Int) ((j : Int) - 1)) = .bool true by rw [hw]) rn) (by kernel_rfl) fun hA => ?_
        refine runS hA 9 [] xn on (by kernel_rfl) fun w5 hA => ?_
        have hst : (allR b fs R k ++ rowR b fs (k : Int) (j + 1)) = (allR b fs R k ++ rowR b fs (k : Int) j) ++ [((k : Int), (j : Int) - 1)] := by rw [rowR, if_pos hw, List.append_assoc]
        have hob := hA.at_.ok ⟨w4.heap.size, .cells #[.int .i64 (k : Int), .int .i64 ((j : Int) - 1)] 69 (0, 0)⟩ (List.mem_of_getElem? (i := 1) (by kernel_rfl))
        have hc0 := cell_of_obj (a := ⟨w4.heap.size, 0, none⟩) hob rfl rfl
        have hc1 := cell_of_obj (a := ⟨w4.heap.size, 1, none⟩) hob rfl rfl
        have hlb : (allR b fs R k ++ rowR b fs (k : Int) j).length ≤ 200 := by rw [List.length_append]; omega
        refine appE (t := 38) (e := 69) (ty := 38) (z := .agg #[.int .i64 0, .int .i64 0]) (size := 2) (bytes := 16) (v := .slice Av (allR b fs R k ++ rowR b fs (k : Int) j).length cv) (n := (allR b fs R k ++ rowR b fs (k : Int) j).length) (m := 1) (cp := 1) (A := some ⟨w4.heap.size, 0, none⟩) [.int .i64 (k : Int), .int .i64 ((j : Int) - 1)] hA hrj (by kernel_rfl) rfl (fun _ => ⟨_, rfl, fun q u hu => by match q, hu with | 0, hu => cases hu; exact hc0 | 1, hu => cases hu; exact hc1⟩) rfl (by omega) (by omega) fun v2 w6 ob2 hr2 hnil2 hat2 hsz2 hA => ?_
        have hle : (allR b fs R k ++ rowR b fs (k : Int) (j + 1)).length = (allR b fs R k ++ rowR b fs (k : Int) j).length + 1 := by rw [hst, List.length_append]; rfl
        obtain ⟨g2, c2', rfl⟩ : ∃ g2 c2', v2 = .slice (some ⟨g2, 0, none⟩) ((allR b fs R k ++ rowR b fs (k : Int) j).length + 1) c2' := by
          rcases hr2.2 with ⟨-, h9, -⟩ | ⟨g2, c2', u2, h1, -⟩
          · omega
          · exact ⟨g2, c2', h1⟩
        refine runS hA 9 [] xn on (by kernel_rfl) fun w7 hA => ?_
        have hrk2 : RowV 69 2 (.slice (some ⟨g2, 0, none⟩) (allR b fs R k ++ rowR b fs (k : Int) (j + 1)).length c2') (allR b fs R k ++ rowR b fs (k : Int) (j + 1)).length (encW (allR b fs R k ++ rowR b fs (k : Int) (j + 1))) ob2 := by rw [hle, hst, encW_app]; exact hr2
        refine revals hA (rc 5 (show .slice (some ⟨g2, 0, none⟩) ((allR b fs R k ++ rowR b fs (k : Int) j).length + 1) c2' = .slice (some ⟨g2, 0, none⟩) ((allR b fs R k ++ rowR b fs (k : Int) (j + 1)).length) c2' by rw [hle]) (rc 7 (wr64 (x := ((j : Int) - 1) + 1) (y := ((j + 1 : Nat) : Int) - 1) (by omega) (by omega)) rn)) (by kernel_rfl) fun hA => ?_
        exact again hJ (R + 1 - (j + 1)) (⟨j + 1, some ⟨g2, 0, none⟩, c2', ob2⟩) [true] hA (by omega) (by kernel_rfl) (⟨⟨by omega, rfl⟩, hrk2⟩)
      ·
        refine revals hA (rc 24 (show .bool (winB b fs (k : Int) ((j : Int) - 1)) = .bool false by rw [hw]) rn) (by kernel_rfl) fun hA => ?_
        refine runS hA 11 [] xn on (by kernel_rfl) fun w5 hA => ?_
        have hst : (allR b fs R k ++ rowR b fs (k : Int) (j + 1)) = (allR b fs R k ++ rowR b fs (k : Int) j) := by rw [rowR, if_neg (by rw [hw]; decide), List.append_nil]
        refine revals hA (rc 5 (show .slice Av ((allR b fs R k ++ rowR b fs (k : Int) j).length) cv = .slice Av ((allR b fs R k ++ rowR b fs (k : Int) (j + 1)).length) cv by rw [hst]) (rc 7 (wr64 (x := ((j : Int) - 1) + 1) (y := ((j + 1 : Nat) : Int) - 1) (by omega) (by omega)) rn)) (by kernel_rfl) fun hA => ?_
        exact again hJ (R + 1 - (j + 1)) (⟨j + 1, Av, cv, ov⟩) [true] hA (by omega) (by kernel_rfl) (⟨⟨by omega, rfl⟩, by rw [hst]; exact hrj⟩)
set_option maxRecDepth 20000 in
theorem rWinners_any (w : World) (B : Nat) (b : Bk) (A : Option Addr) (n c : Nat) (A2 : Option Addr) (m c2 : Nat) (A3 : Option Addr) (nf cf : Nat) (fs : List (List Int)) (h : BkAt w B b A n c A2 m c2) (hf : FinAt w B A3 nf fs) (hB : B ≤ w.heap.size) : Calls Try.prog 25 #[bkV b A n c A2 m c2, .slice A3 nf cf] w fun e w' => ∃ v : Value, e = .returned (.tuple #[v, .int .i64 (atF b fs)]) ∧ Below w.heap.size w w' ∧ w'.ownsRow w.heap.size 69 2 v (winA b fs).length (encW (winA b fs)) ∧ (atF b fs ≠ 0 → v = .slice none 0 0) := by
  refine enter 16 Try.func25 (by kernel_rfl) fun hA => ?_
  refine runS hA 12 (List.replicate 8 (.k 0)) xn on (by kernel_rfl) fun w1 hA => ?_
  refine callB hA [] on (rCheckFinish_any w1 B b A n c A2 m c2 A3 nf cf fs (h.below hA.below hB) (hf.below hA.below hB) (Nat.le_trans hB hA.size)) (by kernel_rfl) fun w2 hb2 hA => ?_
  by_cases h0 : atF b fs = 0
  case neg =>
    refine runS hA 8 ([.b true] ++ List.replicate 8 (.k 0)) xn (oc (ne_t h0) on) (by kernel_rfl) fun w3 hA => ?_
    refine callB hA [] on (rCheckFinish_any w3 B b A n c A2 m c2 A3 nf cf fs (h.below hA.below hB) (hf.below hA.below hB) (Nat.le_trans hB hA.size)) (by kernel_rfl) fun w4 hb4 hA => ?_
    refine runS hA 6 [] xn on (by kernel_rfl) fun w5 hA => ?_
    exact ret (v := .tuple #[.slice none 0 0, .int .i64 (atF b fs)]) hA [] (by kernel_rfl) ⟨_, rfl, hA.below, by unfold winA; rw [if_neg h0]; exact ⟨rfl, .inl ⟨rfl, rfl⟩⟩, fun _ => rfl⟩
  case pos =>
    obtain ⟨V, K⟩ := at_ok h0
    refine runS hA 10 ([.b false] ++ List.replicate 8 (.k 0)) xn (oc (ne_f h0) on) (by kernel_rfl) fun w3 hA => ?_
    have hAp := hA.atK [⟨w.heap.size, .cells #[.int .i64 b.kind, .int .i64 b.runners, .slice A n c, .slice A2 m c2, .bool b.fav, .int .i64 b.car, .int .i64 b.dut, .int .i64 b.stp] 25 (0, 0)⟩] (by kernel_rfl)
    refine call hA [] on (winnersOf_any w3 B b A n c A2 m c2 A3 nf cf fs (hf.below hA.below hB) (Nat.le_trans hB hA.size) V K) (by kernel_rfl) (by rintro e v ⟨v, rfl, hbw, how⟩; exact hbw) ?_
    rintro e w4 ⟨v, rfl, hbw, how⟩
    refine ⟨_, rfl, fun hA => ?_⟩
    obtain ⟨ob, hr, hA2⟩ := At.own hAp hbw how
    refine reknow ⟨[⟨w.heap.size, .cells #[.int .i64 b.kind, .int .i64 b.runners, .slice A n c, .slice A2 m c2, .bool b.fav, .int .i64 b.car, .int .i64 b.dut, .int .i64 b.stp] 25 (0, 0)⟩], w4.heap.size, [], [], [], [], []⟩ hA2 (Nat.zero_le _) fun hA => ?_
    refine runS hA 5 [] xn on (by kernel_rfl) fun w5 hA => ?_
    have hAf := hA.atK [⟨w.heap.size, .cells #[.int .i64 b.kind, .int .i64 b.runners, .slice A n c, .slice A2 m c2, .bool b.fav, .int .i64 b.car, .int .i64 b.dut, .int .i64 b.stp] 25 (0, 0)⟩] (by kernel_rfl)
    have hfn : isFinF b fs = true := by
      unfold atF at h0
      split at h0
      · split at h0
        · assumption
        · cases h0
      · rename_i h1; exact absurd h0 h1
    exact ret (v := .tuple #[v, .int .i64 0]) hA [] (by kernel_rfl) ⟨v, by rw [h0], hA.below, by unfold winA; rw [if_pos h0, ← win_eq V hfn]; exact hr.own hAf, fun h9 => absurd h0 h9⟩
end Go.Proofs.Ytkliekipopnibaa
