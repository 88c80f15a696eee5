/- lag: totals. -/
import Derived.Test.YtjidllaaokdjhaaLL
namespace Go.Proofs.Ytjidllaaokdjhaa
open Go.RowKit Go.Shelf

attribute [local go_sem] Oper.semAt_some

def preS (xs : List Int) : Nat → Int
  | 0 => 0
  | k + 1 => preS xs k + xs[k]?.getD 0
def Row60 (xs : List Int) : Prop := xs.length ≤ 60 ∧ ∀ j, j < xs.length → 0 ≤ xs[j]?.getD 0 ∧ xs[j]?.getD 0 ≤ 10000
theorem preS_bound {xs : List Int} (hx : Row60 xs) : ∀ k, k ≤ xs.length → 0 ≤ preS xs k ∧ preS xs k ≤ 10000 * k
  | 0, _ => by simp [preS]
  | k + 1, h => by
    have h1 := preS_bound hx k (by omega)
    have h2 := hx.2 k (by omega)
    rw [preS]
    omega
def fillR (L : Nat) (xs : List Int) (k : Nat) : List Int := (List.range L).map fun j => if j ≤ k then preS xs j else 0
theorem fillR_len (L : Nat) (xs : List Int) (k : Nat) : (fillR L xs k).length = L := by simp [fillR]
theorem fillR_get {L : Nat} {xs : List Int} {k j : Nat} (hj : j < L) : (fillR L xs k)[j]?.getD 0 = if j ≤ k then preS xs j else 0 := by simp [fillR, hj]
theorem fillR_zero (L : Nat) (xs : List Int) : fillR L xs 0 = List.replicate L 0 := by
  refine List.ext_getElem (by simp [fillR]) fun i h1 h2 => ?_
  simp only [fillR, List.getElem_map, List.getElem_range, List.getElem_replicate]
  split
  · have : i = 0 := by omega
    subst this
    rfl
  · rfl
theorem fillR_set {L : Nat} {xs : List Int} {k : Nat} : (fillR L xs k).set (k + 1) (preS xs k + xs[k]?.getD 0) = fillR L xs (k + 1) := by
  refine List.ext_getElem (by simp [fillR]) fun i h1 h2 => ?_
  simp only [fillR, List.getElem_set, List.getElem_map, List.getElem_range]
  by_cases h : k + 1 = i
  · subst h
    simp [preS]
  · rw [if_neg h]
    by_cases h' : i ≤ k
    · rw [if_pos h', if_pos (by omega)]
    · rw [if_neg h', if_neg (by omega)]
def totF (xs : List Int) : List Int := fillR (xs.length + 1) xs xs.length
theorem totF_len (xs : List Int) : (totF xs).length = xs.length + 1 := fillR_len _ _ _
theorem totF_get {xs : List Int} {j : Nat} (hj : j ≤ xs.length) : (totF xs)[j]?.getD 0 = preS xs j := by
  unfold totF
  rw [fillR_get (by omega), if_pos hj]

set_option maxRecDepth 100000 in
set_option maxHeartbeats 4000000 in
theorem fill_any (w : World) (g L cap B : Nat) (A : Option Addr) (m c : Nat) (xs : List Int) (hz : RowZ w g (List.replicate L 0)) (hx : IntsAt w B A m xs) (hB : B ≤ g) (hr : Row60 xs) (hL : m + 1 ≤ L) (_hL2 : L ≤ 1000) :
    Calls Try.prog 104 #[.slice (some ⟨g, 0, none⟩) L cap, .slice A m c] w fun e w' => e = .returned (.tuple #[]) ∧ RowZ w' g (fillR L xs m) ∧ Below g w w' ∧ w'.heap.size = w.heap.size ∧ ∀ k, k ≠ g → w'.heap[k]? = w.heap[k]? := by
  have hm := hx.len
  have hm60 : m ≤ 60 := by have := hr.1; omega
  have Hr := Lib.hid (And.intro hr hm)
  rw [← fillR_zero L xs] at hz
  clear hr hm
  go_enter Try.func104, Try.ntmps104
  go_wp2
  go_loopw [8] (fun i wr => ∃ k : Nat, k ≤ m ∧ i = .int .i64 (k : Int) ∧ RowZ wr g (fillR L xs k) ∧ Below g w wr ∧ Hid (wr.heap.size = w.heap.size) ∧ ∀ k, k ≠ g → wr.heap[k]? = w.heap[k]?) (fun i _ => m - (intOf i).toNat)
  case atStart => exact ⟨0, by omega, rfl, hz, Below.refl _ _, Lib.hid rfl, fun _ _ => rfl⟩
  case round =>
    obtain ⟨k, hk, rfl, y, hb, hsz, hot⟩ := hrel
    have Hot := Lib.hid hot
    clear hot hz
    by_cases hlt : k < m
    · obtain ⟨b, o, rfl, lb, e1⟩ := (hx.below hb hB).cell hlt
      have e2 := y.cell (j := k) (by rw [fillR_len]; omega)
      have e3 := y.cell (j := k + 1) (by rw [fillR_len]; omega)
      have f3 := y.frozen (j := k + 1)
      rw [fillR_get (by omega), if_pos (Nat.le_refl _)] at e2
      have hbd := preS_bound Hr.out.1 k (by rw [Hr.out.2]; omega)
      have hbx := Hr.out.1.2 k (by rw [Hr.out.2]; omega)
      have hw1 : IntKind.i64.wrap ((k : Int) + 1) = ((k + 1 : Nat) : Int) := by rw [IntKind.wrap_i64]; omega
      have hw2 : IntKind.i64.wrap (preS xs k + xs[k]?.getD 0) = preS xs k + xs[k]?.getD 0 := by rw [IntKind.wrap_i64]; omega
      have hset := fillR_set (L := L) (xs := xs) (k := k)
      have hy := y.set (k + 1) (preS xs k + xs[k]?.getD 0)
      rw [hset] at hy
      have hb2 : Below g w (wr.setCell ⟨g, k + 1, none⟩ (.int .i64 (preS xs k + xs[k]?.getD 0))) := hb.setCell (p := ⟨g, k + 1, none⟩) (Nat.le_refl _) _
      have hsz2 : Hid ((wr.setCell ⟨g, k + 1, none⟩ (.int .i64 (preS xs k + xs[k]?.getD 0))).heap.size = w.heap.size) := Lib.hid (by simp [hsz.out])
      have hot2 : ∀ j, j ≠ g → (wr.setCell ⟨g, k + 1, none⟩ (.int .i64 (preS xs k + xs[k]?.getD 0))).heap[j]? = w.heap[j]? := fun j hj => (Below.heap_setCell wr ⟨g, k + 1, none⟩ _ j hj).trans (Hot.out j hj)
      have Hot2 := Lib.hid hot2
      obtain ⟨s, hs⟩ : ∃ s, s = preS xs k := ⟨_, rfl⟩
      obtain ⟨x, hxe⟩ : ∃ x, x = xs[k]?.getD 0 := ⟨_, rfl⟩
      rw [← hs, ← hxe] at hw2 hy hb2 hsz2 Hot2
      rw [← hs] at e2
      rw [← hxe] at e1
      clear hset hs hxe hbd hbx hot2 y
      go_wp2
      go_roundw
      case rel => exact ⟨k + 1, by omega, by go_num, hy, hb2, hsz2, Hot2.out⟩
      case measure => simp [intOf]; omega
    · have hkm : k = m := by omega
      rw [hkm] at y
      clear hkm
      go_wp2
      refine bodyPost_end (v := .tuple #[]) (results_none rfl _ _ _) rfl ?_
      exact ⟨rfl, y, hb, hsz.out, Hot.out⟩
end Go.Proofs.Ytjidllaaokdjhaa
