/- Parts of a proof: VX VY VZ YG. -/
import Derived.Test.YtbahiemjaomdcaaGreatQ12

/- law of pool: paid. -/
namespace Go.Proofs.YtbahiemjaomdcaaGreat
open Go.RowKit Go.Shelf

/-- The dividends. -/
def dvL (b : Bk) (fs : List (List Int)) : List ((Int × Int) × Int) := (bkd (tilF b) fs).map fun s => (s, dvF (tilF b) fs s)
end Go.Proofs.YtbahiemjaomdcaaGreat

/- pool: books whose bets, or numbers, are others: sums, accounts, dividends. -/
namespace Go.Proofs.YtbahiemjaomdcaaGreat
open Go.RowKit Go.Shelf

/-- A sum of units over bets that are told by what they are on. -/
def wS (f : Int → Int → Bool) (bs : List Bet) : Int := (bs.map fun x => if f x.first x.second = true then x.units else 0).sum
def okK (b : Bk) (u v : Int) : Bool := okF b ⟨u, v, 0⟩
def heK (t : Till) (u v : Int) : Bool := toHeir t ⟨u, v, 0⟩
def spK (t : Till) (u v : Int) : Int × Int := spX t ⟨u, v, 0⟩
def onK (t : Till) (u v : Int) : Bool := okT t ⟨u, v, 0⟩
/-- A book with other bets. -/
def bkB (b : Bk) (bs : List Bet) : Bk := { b with bets := bs }
/-! ### bets in another order; two bets made one -/
def rotL (bs : List Bet) (k : Nat) : List Bet := bs.drop k ++ bs.take k
def jn1 (bs : List Bet) (i j n : Nat) : List Bet :=
  if n = j then [] else if n = i then [⟨(bs[n]?.getD noBet).first, (bs[n]?.getD noBet).second, (bs[n]?.getD noBet).units + (bs[j]?.getD noBet).units⟩] else [bs[n]?.getD noBet]
def jnL (bs : List Bet) (i j : Nat) : Nat → List Bet
  | 0 => []
  | n + 1 => jnL bs i j n ++ jn1 bs i j n
end Go.Proofs.YtbahiemjaomdcaaGreat

/- pool: books with more carried over, more duty, a lesser step; a dividend out of a list. -/
namespace Go.Proofs.YtbahiemjaomdcaaGreat
open Go.RowKit Go.Shelf

def bkN (b : Bk) (c d s : Int) : Bk := { b with car := c, dut := d, stp := s }
theorem acc_paid {b : Bk} {fs : List (List Int)} (h0 : bookF b = 0) (h : isFinF b fs = true) : (AccountF b fs).paid = pdF (tilF b) fs := by
  rw [acc_eq h0 h]
  split
  · rename_i hb
    unfold pdF
    rw [hb]
    rfl
  · rfl
/-- The dividend of a winner in a list, 0 if it has none. -/
def pnF (ds : List ((Int × Int) × Int)) (s : Int × Int) : Int := match ds.find? fun d => decide (d.1 = s) with
  | some d => d.2
  | none => 0
theorem dvL_get {b : Bk} {fs : List (List Int)} {i : Nat} (h : i < (dvL b fs).length) : (dvL b fs)[i]?.getD ((0, 0), 0) = ((bkd (tilF b) fs)[i]?.getD (0, 0), dvF (tilF b) fs ((bkd (tilF b) fs)[i]?.getD (0, 0))) := by
  have h2 : i < (bkd (tilF b) fs).length := by unfold dvL at h; rwa [List.length_map] at h
  rw [List.getElem?_eq_getElem h, List.getElem?_eq_getElem h2]
  unfold dvL
  simp only [Option.getD_some]
  exact List.getElem_map _
theorem dvL_len (b : Bk) (fs : List (List Int)) : (dvL b fs).length = (bkd (tilF b) fs).length := by unfold dvL; rw [List.length_map]
theorem dvL_len2 {b : Bk} {fs : List (List Int)} (h0 : bookF b = 0) (hfin : isFinF b fs = true) : (dvL b fs).length ≤ 1000 := by
  rw [dvL_len]
  have := (at_ok (b := b) (fs := fs) (by unfold atF; rw [if_pos h0, if_pos hfin])).2.ws
  exact Nat.le_trans (List.length_filter_le _ _) this
end Go.Proofs.YtbahiemjaomdcaaGreat

/- law of pool: paid, told as a slice. -/
namespace Go.Proofs.YtbahiemjaomdcaaGreat
open Go.RowKit Go.Shelf

theorem own_slice {w : World} {B : Nat} {T : TypeId} {v : Value} {n k : Nat} {vs : List Value} (h : w.ownsRow B T k v n vs) : ∃ A c, v = .slice A n c := by
  rcases h.2 with ⟨h1, h2⟩ | ⟨g, cap, cur, h1, -⟩
  · subst h2; exact ⟨none, 0, h1⟩
  · exact ⟨_, cap, h1⟩
theorem row_at {T : TypeId} {k n c : Nat} {A : Option Addr} {vs : List Value} {ob : List KB} (hr : RowV T k (.slice A n c) n vs ob) (hn : n ≤ 1000) : ∀ w : World, (∀ kb ∈ ob, w.heap[kb.id]? = some kb.obj) → PartsAt w w.heap.size A n k vs := by
  obtain ⟨A', c', e, h⟩ := row_open hr hn
  cases e
  exact h
end Go.Proofs.YtbahiemjaomdcaaGreat
