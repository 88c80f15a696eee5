/- Parts of a proof: YC YK ZG. -/
import Derived.Test.YtbahiemjaomdcaaGreatQ15

/- Symbolic runs: appends anywhere in a region that draws. -/
namespace Go.Proofs.YtbahiemjaomdcaaGreat
open Go.RowKit Go.Shelf

theorem appGD {c : Ctx} {S : Sta} {w : World} {ob rest : List KB} {t e ty : TypeId} {z v : Value} {size bytes n m cp : Nat} {a : Addr} {vs : List Value} (news : List Value) (hA : AtS c S w (ob ++ rest)) (hr : RowV e size v n vs ob)
    (h : (holdL S S.env.known, appOf c.P c.N S, semOf c.P c.N S [], infoOf c.P t) = (holdR S, some (t, v, .slice (some a) m cp, ty), some (appSem t ty v (.slice (some a) m cp), []), some (e, z, size, bytes)))
    (hl : news.length = m * size) (hnews : ∀ j u, news[j]? = some u → w.cell? (a.add j) = some u) (h1 : (news.all fun u => oneCell u) = true) (hmax : n + m ≤ 1000000000) (hb : bytes ≤ 140000)
    (k : ∀ v' w' ob', RowV e size v' (n + m) (vs ++ news) ob' → (v' = .slice none 0 0 ↔ v = .slice none 0 0 ∧ m = 0) → (v'.ownBlock = v.ownBlock ∨ v'.ownBlock = some w.heap.size) → w.heap.size ≤ w'.heap.size → AtS c (knS (valS c.N S v' w'.heap.size) S.env.known) w' (ob' ++ rest) → Run c (knS (valS c.N S v' w'.heap.size) S.env.known) w') : Run c S w := by
  simp only [Prod.mk.injEq] at h
  obtain ⟨h0, -, hsem, hinf⟩ := h
  obtain ⟨i, ht, hi, hz, hsize, hby, hzs, hsz⟩ := infoOf_spec hinf
  obtain ⟨v', w', hrun, hown, hg, hnil, hat⟩ := run_append_own_at (P := c.P) w c.w0.heap.size t ty e i z size bytes ht hi hz hsize hby hzs hsz v n vs (hr.own hA.at_) a m cp news hl hnews (ones_of h1) (by simp only [maxLen]; omega) (by
      have : (n + m) * bytes ≤ 1000000000 * 140000 := Nat.mul_le_mul hmax hb
      omega) hA.below.size
  obtain ⟨ob', hr', hA'⟩ := At.row hA.at_ hr hown hg (by rcases hat with h | h; exact .inl h; exact .inr fun g e => by rw [h] at e; cases e; exact Nat.le_refl _)
  refine opwD [] on (s := appSem t ty v (.slice (some a) m cp)) (by rw [h0, hsem]) (nx := .value v') ?_ (.inl rfl) hA' (Nat.le_trans hA.lo hg.size) (k v' w' ob' hr' hnil hat hg.size)
  unfold appSem
  rw [Sem.run_bind', hrun]
  rfl
theorem appED {c : Ctx} {S : Sta} {w : World} {ob rest : List KB} {t e ty : TypeId} {z v : Value} {size bytes n m cp : Nat} {A : Option Addr} {vs : List Value} (news : List Value) (hA : AtS c S w (ob ++ rest)) (hr : RowV e size v n vs ob)
    (h : (holdL S S.env.known, appOf c.P c.N S, semOf c.P c.N S [], infoOf c.P t) = (holdR S, some (t, v, .slice A m cp, ty), some (appSem t ty v (.slice A m cp), []), some (e, z, size, bytes)))
    (hl : news.length = m * size) (hnews : ReadsAt w A news) (h1 : (news.all fun u => oneCell u) = true) (hmax : n + m ≤ 1000000000) (hb : bytes ≤ 140000)
    (k : ∀ v' w' ob', RowV e size v' (n + m) (vs ++ news) ob' → (v' = .slice none 0 0 ↔ v = .slice none 0 0 ∧ m = 0) → (v'.ownBlock = v.ownBlock ∨ v'.ownBlock = some w.heap.size) → w.heap.size ≤ w'.heap.size → AtS c (knS (valS c.N S v' w'.heap.size) S.env.known) w' (ob' ++ rest) → Run c (knS (valS c.N S v' w'.heap.size) S.env.known) w') : Run c S w := by
  by_cases hm : m = 0
  · subst hm
    have hn0 : news = [] := by simpa using hl
    subst hn0
    simp only [Prod.mk.injEq] at h
    obtain ⟨h0, -, hsem, hinf⟩ := h
    obtain ⟨i, ht, hi, hz, hsize, hby, hzs, hsz⟩ := infoOf_spec hinf
    have hrun : (appSem t ty v (.slice A 0 cp)).run c.P w = .ok (.value v) w := by
      unfold appSem
      rw [Sem.run_bind']
      rcases hr.2 with ⟨rfl, rfl, -⟩ | ⟨g, cap, cur, rfl, -, hc, -⟩
      · rw [run_append_empty w t ty e i ht hi none A 0 0 cp (Nat.le_refl _)]; rfl
      · rw [run_append_empty w t ty e i ht hi _ A n cap cp hc]; rfl
    exact opwD [] on (s := appSem t ty v (.slice A 0 cp)) (by rw [h0, hsem]) (nx := .value v) hrun (.inl rfl) hA.at_.resize hA.lo (k v w ob (by rw [List.append_nil]; exact hr) ⟨fun h => ⟨h, rfl⟩, fun h => h.1⟩ (.inl rfl) (Nat.le_refl _))
  · have hnn : news ≠ [] := fun h' => by
      obtain ⟨i, ht, hi, hz, hsize, hby, hzs, hsz⟩ := infoOf_spec (Prod.mk.inj (Prod.mk.inj (Prod.mk.inj h).2).2).2
      rw [h'] at hl
      have := Nat.mul_pos (Nat.pos_of_ne_zero hm) hsz
      simp at hl
      omega
    obtain ⟨a, rfl, hs⟩ := hnews hnn
    exact appGD news hA hr h hl hs h1 hmax hb k
/-- The same; the new row is told as a slice. -/
theorem appEDS {c : Ctx} {S : Sta} {w : World} {ob rest : List KB} {t e ty : TypeId} {z v : Value} {size bytes n m cp : Nat} {A : Option Addr} {vs : List Value} (news : List Value) (hA : AtS c S w (ob ++ rest)) (hr : RowV e size v n vs ob)
    (h : (holdL S S.env.known, appOf c.P c.N S, semOf c.P c.N S [], infoOf c.P t) = (holdR S, some (t, v, .slice A m cp, ty), some (appSem t ty v (.slice A m cp), []), some (e, z, size, bytes)))
    (hl : news.length = m * size) (hnews : ReadsAt w A news) (h1 : (news.all fun u => oneCell u) = true) (hmax : n + m ≤ 1000000000) (hb : bytes ≤ 140000)
    (h0 : 0 < n + m)
    (k : ∀ g' c' w' ob', RowV e size (.slice (some ⟨g', 0, none⟩) (n + m) c') (n + m) (vs ++ news) ob' → AtS c (knS (valS c.N S (.slice (some ⟨g', 0, none⟩) (n + m) c') w'.heap.size) S.env.known) w' (ob' ++ rest) → Run c (knS (valS c.N S (.slice (some ⟨g', 0, none⟩) (n + m) c') w'.heap.size) S.env.known) w') : Run c S w := by
  refine appED news hA hr h hl hnews h1 hmax hb fun v' w' ob' hr2 _ _ _ hA2 => ?_
  rcases hr2.2 with ⟨-, h9, -⟩ | ⟨g2, c2, u2, e2, -⟩
  · omega
  · subst e2
    exact k _ _ w' ob' hr2 hA2
theorem appES {c : Ctx} {S : Sta} {w : World} {ob rest : List KB} {t e ty : TypeId} {z v : Value} {size bytes n m cp : Nat} {A : Option Addr} {vs : List Value} (news : List Value) (hA : AtS c S w (ob ++ rest)) (hr : RowV e size v n vs ob)
    (h : (noDraw S, appOf c.P c.N S, semOf c.P c.N S [], infoOf c.P t) = (true, some (t, v, .slice A m cp, ty), some (appSem t ty v (.slice A m cp), []), some (e, z, size, bytes)))
    (hl : news.length = m * size) (hnews : ReadsAt w A news) (h1 : (news.all fun u => oneCell u) = true) (hmax : n + m ≤ 1000000000) (hb : bytes ≤ 140000)
    (h0 : 0 < n + m)
    (k : ∀ g' c' w' ob', RowV e size (.slice (some ⟨g', 0, none⟩) (n + m) c') (n + m) (vs ++ news) ob' → AtS c (knS (valS c.N S (.slice (some ⟨g', 0, none⟩) (n + m) c') w'.heap.size) S.env.known) w' (ob' ++ rest) → Run c (knS (valS c.N S (.slice (some ⟨g', 0, none⟩) (n + m) c') w'.heap.size) S.env.known) w') : Run c S w := by
  refine appE news hA hr h hl hnews h1 hmax hb fun v' w' ob' hr2 _ _ _ hA2 => ?_
  rcases hr2.2 with ⟨-, h9, -⟩ | ⟨g2, c2, u2, e2, -⟩
  · omega
  · subst e2
    exact k _ _ w' ob' hr2 hA2
end Go.Proofs.YtbahiemjaomdcaaGreat

/- law of pool: finishes whose groups are those of another one; winners, told as a slice. -/
namespace Go.Proofs.YtbahiemjaomdcaaGreat
open Go.RowKit Go.Shelf

/-- The groups of a finish, as values. -/
def ValsAt (W : World) (B : Nat) (fs : List (List Int)) (vs : List Value) : Prop := vs.length = fs.length ∧ ∀ j, j < fs.length → ∃ A c, vs[j]? = some (.slice A (fs[j]?.getD []).length c) ∧ (fs[j]?.getD []).length ≤ c ∧ IntsAt W B A (fs[j]?.getD []).length (fs[j]?.getD [])
theorem ValsAt.below {W w : World} {fs : List (List Int)} {vs : List Value} (h : ValsAt W W.heap.size fs vs) (hb : Below W.heap.size W w) : ValsAt w w.heap.size fs vs :=
  ⟨h.1, fun j hj => by obtain ⟨A, c, h1, h2, h3⟩ := h.2 j hj; exact ⟨A, c, h1, h2, (h3.below hb (Nat.le_refl _)).more hb.size⟩⟩
theorem ValsAt.ones {W : World} {B : Nat} {fs : List (List Int)} {vs : List Value} (h : ValsAt W B fs vs) : (vs.all fun u => oneCell u) = true := by
  rw [List.all_eq_true]
  intro v hv
  obtain ⟨j, hj, rfl⟩ := List.mem_iff_getElem.1 hv
  obtain ⟨A, c, h1, -, -⟩ := h.2 j (by have := h.1; omega)
  rw [List.getElem?_eq_getElem hj] at h1
  rw [Option.some.inj h1]
  rfl
theorem fin_row {w : World} {g n c : Nat} {vs : List Value} {ob : List KB} {fs : List (List Int)} (hr : RowV 23 1 (.slice (some ⟨g, 0, none⟩) n c) n vs ob) (hk : ∀ kb ∈ ob, w.heap[kb.id]? = some kb.obj) (hv : ValsAt w w.heap.size fs vs) (hn : n ≤ 1000) : FinAt w w.heap.size (some ⟨g, 0, none⟩) n fs := by
  have hl := hr.1
  rw [Nat.mul_one] at hl
  have hl2 := hv.1
  rcases hr.2 with ⟨e1, -, -⟩ | ⟨g', cap, cur, e1, e2, h3, h4, h5, h6⟩
  · cases e1
  · cases e1
    subst e2
    have hb := hk _ List.mem_cons_self
    have hb : w.heap[g]? = some (.cells cur 23 (0, 0)) := hb
    refine ⟨by omega, by omega, fun _ => ⟨g, 0, rfl, (Array.getElem?_eq_some_iff.1 hb).1, fun j hj => ?_⟩⟩
    obtain ⟨A, c, h7, h8, h9⟩ := hv.2 j (by omega)
    refine ⟨A, c, cell_of_obj (T := 23) (fz := (0, 0)) hb rfl ?_, h8, h9⟩
    show cur[0 + j]? = _
    rw [Nat.zero_add, ← h7, ← h6, Nat.mul_one, List.getElem?_take_of_lt hj, Array.getElem?_toList]
theorem ValsAt.snoc {w : World} {fs : List (List Int)} {vs : List Value} {A : Option Addr} {c : Nat} {F : List Int} (h : ValsAt w w.heap.size fs vs) (hc : F.length ≤ c) (hx : IntsAt w w.heap.size A F.length F) : ValsAt w w.heap.size (fs ++ [F]) (vs ++ [.slice A F.length c]) := by
  have hl := h.1
  refine ⟨by simp [hl], fun j hj => ?_⟩
  rw [List.length_append] at hj
  by_cases e : j < fs.length
  · obtain ⟨A', c', h1, h2, h3⟩ := h.2 j e
    rw [List.getElem?_append_left (by omega), List.getElem?_append_left e]
    exact ⟨A', c', h1, h2, h3⟩
  · have hj2 : j = fs.length := by simp at hj; omega
    subst hj2
    rw [List.getElem?_append_right (by omega), List.getElem?_append_right (Nat.le_refl _), ← hl, Nat.sub_self]
    exact ⟨A, c, rfl, hc, hx⟩
end Go.Proofs.YtbahiemjaomdcaaGreat

/- quinellalaw03: the sums of PoolShared. -/
namespace Go.Proofs.YtbahiemjaomdcaaGreat
open Go.RowKit Go.Shelf

def pdN (b : Bk) (fs : List (List Int)) (i : Nat) : Int := ((bkN' b fs i).map fun s => dvF (tilF b) fs s * uL (tilF b) b.bets s).sum
theorem sh_few {b : Bk} (V : ValidB b) (fs : List (List Int)) : 0 ≤ shF (tilF b) fs ∧ shF (tilF b) fs ≤ 20000000 := by
  obtain ⟨⟨n1, n2, n3⟩, n4, n5⟩ := net_facts V
  have h := tdiv_le n3 ((bkd (tilF b) fs).length)
  unfold shF
  omega
where
  tdiv_le {x : Int} (hx : 0 ≤ x) (L : Nat) : 0 ≤ x.tdiv (L : Int) ∧ x.tdiv (L : Int) ≤ x := by
    rw [Int.tdiv_eq_ediv_of_nonneg hx]
    refine ⟨Int.ediv_nonneg hx (by omega), ?_⟩
    exact Int.ediv_le_self _ hx
theorem dv_all {b : Bk} {fs : List (List Int)} (V : ValidB b) {s : Int × Int} (hs : s ∈ bkd (tilF b) fs) : (0 ≤ dvF (tilF b) fs s ∧ dvF (tilF b) fs s ≤ shF (tilF b) fs) ∧ (dvF (tilF b) fs s).tmod b.stp = 0 ∧ (0 ≤ dvF (tilF b) fs s * uL (tilF b) b.bets s ∧ dvF (tilF b) fs s * uL (tilF b) b.bets s ≤ shF (tilF b) fs) ∧ shF (tilF b) fs < (dvF (tilF b) fs s + b.stp) * uL (tilF b) b.bets s ∧ (dvF (tilF b) fs s + b.stp) * uL (tilF b) b.bets s ≤ shF (tilF b) fs + 100 * uL (tilF b) b.bets s := by
  obtain ⟨h1, h2, h3, h4, h5⟩ := dv_facts V hs
  have hst := V.stp
  have hm := Int.mul_nonneg h3 (Int.le_of_lt h1)
  have hle : dvF (tilF b) fs s * 1 ≤ dvF (tilF b) fs s * uL (tilF b) b.bets s := Int.mul_le_mul_of_nonneg_left (by omega) h3
  have hpos : 0 < uL (tilF b) b.bets s * b.stp := Int.mul_pos h1 (by omega)
  have hlt := Int.lt_ediv_add_one_mul_self (shF (tilF b) fs) hpos
  have e1 : (shF (tilF b) fs / (uL (tilF b) b.bets s * b.stp) + 1) * (uL (tilF b) b.bets s * b.stp) = (dvF (tilF b) fs s + b.stp) * uL (tilF b) b.bets s := by
    rw [h5, Int.add_mul, Int.add_mul, Int.one_mul, Int.mul_comm (uL (tilF b) b.bets s) b.stp, ← Int.mul_assoc]
  have e2 : (dvF (tilF b) fs s + b.stp) * uL (tilF b) b.bets s = dvF (tilF b) fs s * uL (tilF b) b.bets s + b.stp * uL (tilF b) b.bets s := Int.add_mul _ _ _
  have h6 : b.stp * uL (tilF b) b.bets s ≤ 100 * uL (tilF b) b.bets s := Int.mul_le_mul_of_nonneg_right hst.2 (Int.le_of_lt h1)
  refine ⟨⟨h3, by omega⟩, ?_, ⟨hm, h4⟩, by omega, by omega⟩
  rw [h5, Int.mul_tmod_left]
end Go.Proofs.YtbahiemjaomdcaaGreat
