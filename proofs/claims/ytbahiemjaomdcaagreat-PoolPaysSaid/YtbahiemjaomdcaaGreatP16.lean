/- Parts of a proof: YC YK ZG. -/
import Derived.Test.YtbahiemjaomdcaaGreatP15

/- Symbolic runs: appends anywhere in a region that draws. -/
namespace Go.Proofs.YtbahiemjaomdcaaGreat
open Go.RowKit Go.Shelf

theorem appES {c : Ctx} {S : Sta} {w : World} {ob rest : List KB} {t e ty : TypeId} {z v : Value} {size bytes n m cp : Nat} {A : Option Addr} {vs : List Value} (news : List Value) (hA : AtS c S w (ob ++ rest)) (hr : RowV e size v n vs ob)
    (h : (noDraw S, appOf c.P c.N S, semOf c.P c.N S [], infoOf c.P t) = (true, some (t, v, .slice A m cp, ty), some (appSem t ty v (.slice A m cp), []), some (e, z, size, bytes)))
    (hl : news.length = m * size) (hnews : ReadsAt w A news) (h1 : (news.all fun u => oneCell u) = true) (hmax : n + m ≤ 1000000000) (hb : bytes ≤ 140000)
    (h0 : 0 < n + m)
    (k : ∀ g' c' w' ob', RowV e size (.slice (some ⟨g', 0, none⟩) (n + m) c') (n + m) (vs ++ news) ob' → AtS c (knS (valS c.N S (.slice (some ⟨g', 0, none⟩) (n + m) c') w'.heap.size) S.env.known) w' (ob' ++ rest) → Run c (knS (valS c.N S (.slice (some ⟨g', 0, none⟩) (n + m) c') w'.heap.size) S.env.known) w') : Run c S w := by
  refine appE news hA hr h hl hnews h1 hmax hb fun v' w' ob' hr2 _ _ _ hA2 => ?_
  rcases hr2.2 with ⟨-, h9, -⟩ | ⟨g2, c2, u2, e2, -⟩
  · omega
  · subst e2
    exact k _ _ w' ob' hr2 hA2
end Go.Proofs.YtbahiemjaomdcaaGreat

/- law of pool: finishes whose groups are those of another one; winners, told as a slice. -/
namespace Go.Proofs.YtbahiemjaomdcaaGreat
open Go.RowKit Go.Shelf

/-- The groups of a finish, as values. -/
def ValsAt (W : World) (B : Nat) (fs : List (List Int)) (vs : List Value) : Prop := vs.length = fs.length ∧ ∀ j, j < fs.length → ∃ A c, vs[j]? = some (.slice A (fs[j]?.getD []).length c) ∧ (fs[j]?.getD []).length ≤ c ∧ IntsAt W B A (fs[j]?.getD []).length (fs[j]?.getD [])
theorem ValsAt.below {W w : World} {fs : List (List Int)} {vs : List Value} (h : ValsAt W W.heap.size fs vs) (hb : Below W.heap.size W w) : ValsAt w w.heap.size fs vs :=
  ⟨h.1, fun j hj => by obtain ⟨A, c, h1, h2, h3⟩ := h.2 j hj; exact ⟨A, c, h1, h2, (h3.below hb (Nat.le_refl _)).more hb.size⟩⟩
end Go.Proofs.YtbahiemjaomdcaaGreat

/- quinellalaw03: the sums of PoolShared. -/
namespace Go.Proofs.YtbahiemjaomdcaaGreat
open Go.RowKit Go.Shelf

def pdN (b : Bk) (fs : List (List Int)) (i : Nat) : Int := ((bkN' b fs i).map fun s => dvF (tilF b) fs s * uL (tilF b) b.bets s).sum
theorem sh_few {b : Bk} (V : ValidB b) (fs : List (List Int)) : 0 ≤ shF (tilF b) fs ∧ shF (tilF b) fs ≤ 20000000 := by
  obtain ⟨⟨n1, n2, n3⟩, n4, n5⟩ := net_facts V
  have h := tdiv_le n3 ((bkd (tilF b) fs).length)
  unfold shF
  omega
where
  tdiv_le {x : Int} (hx : 0 ≤ x) (L : Nat) : 0 ≤ x.tdiv (L : Int) ∧ x.tdiv (L : Int) ≤ x := by
    rw [Int.tdiv_eq_ediv_of_nonneg hx]
    refine ⟨Int.ediv_nonneg hx (by omega), ?_⟩
    exact Int.ediv_le_self _ hx
theorem dv_all {b : Bk} {fs : List (List Int)} (V : ValidB b) {s : Int × Int} (hs : s ∈ bkd (tilF b) fs) : (0 ≤ dvF (tilF b) fs s ∧ dvF (tilF b) fs s ≤ shF (tilF b) fs) ∧ (dvF (tilF b) fs s).tmod b.stp = 0 ∧ (0 ≤ dvF (tilF b) fs s * uL (tilF b) b.bets s ∧ dvF (tilF b) fs s * uL (tilF b) b.bets s ≤ shF (tilF b) fs) ∧ shF (tilF b) fs < (dvF (tilF b) fs s + b.stp) * uL (tilF b) b.bets s ∧ (dvF (tilF b) fs s + b.stp) * uL (tilF b) b.bets s ≤ shF (tilF b) fs + 100 * uL (tilF b) b.bets s := by
  obtain ⟨h1, h2, h3, h4, h5⟩ := dv_facts V hs
  have hst := V.stp
  have hm := Int.mul_nonneg h3 (Int.le_of_lt h1)
  have hle : dvF (tilF b) fs s * 1 ≤ dvF (tilF b) fs s * uL (tilF b) b.bets s := Int.mul_le_mul_of_nonneg_left (by omega) h3
  have hpos : 0 < uL (tilF b) b.bets s * b.stp := Int.mul_pos h1 (by omega)
  have hlt := Int.lt_ediv_add_one_mul_self (shF (tilF b) fs) hpos
  have e1 : (shF (tilF b) fs / (uL (tilF b) b.bets s * b.stp) + 1) * (uL (tilF b) b.bets s * b.stp) = (dvF (tilF b) fs s + b.stp) * uL (tilF b) b.bets s := by
    rw [h5, Int.add_mul, Int.add_mul, Int.one_mul, Int.mul_comm (uL (tilF b) b.bets s) b.stp, ← Int.mul_assoc]
  have e2 : (dvF (tilF b) fs s + b.stp) * uL (tilF b) b.bets s = dvF (tilF b) fs s * uL (tilF b) b.bets s + b.stp * uL (tilF b) b.bets s := Int.add_mul _ _ _
  have h6 : b.stp * uL (tilF b) b.bets s ≤ 100 * uL (tilF b) b.bets s := Int.mul_le_mul_of_nonneg_right hst.2 (Int.le_of_lt h1)
  refine ⟨⟨h3, by omega⟩, ?_, ⟨hm, h4⟩, by omega, by omega⟩
  rw [h5, Int.mul_tmod_left]
end Go.Proofs.YtbahiemjaomdcaaGreat
