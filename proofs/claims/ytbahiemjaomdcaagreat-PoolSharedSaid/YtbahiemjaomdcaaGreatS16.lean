/- PoolShared answers true whatever the book and the numbers of the finish; the arguments read behind the call as they did. No condition. -/
import Derived.Test.YtbahiemjaomdcaaGreatS15
import Derived.Test.YtbahiemjaomdcaaGreatRows
import Derived.WalkKit
import Derived.ProofKit
import Derived.OpenShut
import Derived.Carry
import Derived.Deep.Slices
import Derived.ChangeSame

/- Symbolic runs: appends anywhere in a region that draws. -/
namespace Go.Proofs.YtbahiemjaomdcaaGreat
open Go.RowKit Go.Shelf

theorem appGD {c : Ctx} {S : Sta} {w : World} {ob rest : List KB} {t e ty : TypeId} {z v : Value} {size bytes n m cp : Nat} {a : Addr} {vs : List Value} (news : List Value) (hA : AtS c S w (ob ++ rest)) (hr : RowV e size v n vs ob)
    (h : (holdL S S.env.known, appOf c.P c.N S, semOf c.P c.N S [], infoOf c.P t) = (holdR S, some (t, v, .slice (some a) m cp, ty), some (appSem t ty v (.slice (some a) m cp), []), some (e, z, size, bytes)))
    (hl : news.length = m * size) (hnews : ∀ j u, news[j]? = some u → w.cell? (a.add j) = some u) (h1 : (news.all fun u => oneCell u) = true) (hmax : n + m ≤ 1000000000) (hb : bytes ≤ 140000)
    (k : ∀ v' w' ob', RowV e size v' (n + m) (vs ++ news) ob' → (v' = .slice none 0 0 ↔ v = .slice none 0 0 ∧ m = 0) → (v'.ownBlock = v.ownBlock ∨ v'.ownBlock = some w.heap.size) → w.heap.size ≤ w'.heap.size → AtS c (knS (valS c.N S v' w'.heap.size) S.env.known) w' (ob' ++ rest) → Run c (knS (valS c.N S v' w'.heap.size) S.env.known) w') : Run c S w := by
  simp only [Prod.mk.injEq] at h
  obtain ⟨h0, -, hsem, hinf⟩ := h
  obtain ⟨i, ht, hi, hz, hsize, hby, hzs, hsz⟩ := infoOf_spec hinf
  obtain ⟨v', w', hrun, hown, hg, hnil, hat⟩ := run_append_own_at (P := c.P) w c.w0.heap.size t ty e i z size bytes ht hi hz hsize hby hzs hsz v n vs (hr.own hA.at_) a m cp news hl hnews (ones_of h1) (by simp only [maxLen]; omega) (by
      have : (n + m) * bytes ≤ 1000000000 * 140000 := Nat.mul_le_mul hmax hb
      omega) hA.below.size
  obtain ⟨ob', hr', hA'⟩ := At.row hA.at_ hr hown hg (by rcases hat with h | h; exact .inl h; exact .inr fun g e => by rw [h] at e; cases e; exact Nat.le_refl _)
  refine opwD [] on (s := appSem t ty v (.slice (some a) m cp)) (by rw [h0, hsem]) (nx := .value v') ?_ (.inl rfl) hA' (Nat.le_trans hA.lo hg.size) (k v' w' ob' hr' hnil hat hg.size)
  unfold appSem
  rw [Sem.run_bind', hrun]
  rfl
theorem appND {c : Ctx} {S : Sta} {w : World} {rows : List KB} {t e ty : TypeId} {z : Value} {size bytes n cap m cp : Nat} {A A' : Option Addr} (olds news : List Value) (hA : AtS c S w rows)
    (h : (holdL S S.env.known, appOf c.P c.N S, semOf c.P c.N S [], infoOf c.P t) = (holdR S, some (t, .slice A n cap, .slice A' m cp, ty), some (appSem t ty (.slice A n cap) (.slice A' m cp), []), some (e, z, size, bytes)))
    (hlo : olds.length = n * size) (holds : ReadsAt w A olds) (hc : A = none → cap = 0) (hnc : n ≤ cap) (hl : news.length = m * size) (hnews : ReadsAt w A' news) (h1 : (news.all fun u => oneCell u) = true) (hg : cap < n + m) (hmax : n + m ≤ 1000000000) (hb : bytes ≤ 140000)
    (k : ∀ v' w' ob', RowV e size v' (n + m) (olds ++ news) ob' → (∀ g, v'.ownBlock = some g → w.heap.size ≤ g) → Below w.heap.size w w' → AtS c (knS (valS c.N S v' w'.heap.size) S.env.known) w' (ob' ++ rows) → Run c (knS (valS c.N S v' w'.heap.size) S.env.known) w') : Run c S w := by
  simp only [Prod.mk.injEq] at h
  obtain ⟨h0, -, hsem, hinf⟩ := h
  obtain ⟨i, ht, hi, hz, hsize, hby, hzs, hsz⟩ := infoOf_spec hinf
  obtain ⟨v', w', hrun, hown, hgr⟩ := run_append_new (P := c.P) w t ty e i z size bytes ht hi hz hsize hby hzs hsz A n cap olds hlo holds hc hnc A' m cp news hl hnews (ones_of h1) hg (by simp only [maxLen]; omega) (by
      have : (n + m) * bytes ≤ 1000000000 * 140000 := Nat.mul_le_mul hmax hb
      omega)
  have hge : ∀ g, v'.ownBlock = some g → w.heap.size ≤ g := fun g e => by
    rcases hown.2 with ⟨h1, -⟩ | ⟨g', cap', cur, h1, h2, -⟩
    · rw [h1] at e; cases e
    · rw [h1] at e
      have : g' = g := by simpa [Value.ownBlock] using e
      omega
  have hown' : w'.ownsRow c.w0.heap.size e size v' (n + m) (olds ++ news) := by
    refine ⟨hown.1, ?_⟩
    rcases hown.2 with h1 | ⟨g', cap', cur, h1, h2, h3⟩
    · exact .inl h1
    · exact .inr ⟨g', cap', cur, h1, Nat.le_trans hA.below.size h2, h3⟩
  obtain ⟨ob', hr', hA'⟩ := At.row (ob := []) hA.at_ (RowV.nil e size) hown' hgr (.inr hge)
  refine opwD [] on (s := appSem t ty (.slice A n cap) (.slice A' m cp)) (by rw [h0, hsem]) (nx := .value v') ?_ (.inl rfl) hA' (Nat.le_trans hA.lo hgr.size) (k v' w' ob' hr' hge ((Below.refl _ _).grown hgr (Nat.le_refl _) (fun _ e => by cases e)))
  unfold appSem
  rw [Sem.run_bind', hrun]
  rfl
theorem appED {c : Ctx} {S : Sta} {w : World} {ob rest : List KB} {t e ty : TypeId} {z v : Value} {size bytes n m cp : Nat} {A : Option Addr} {vs : List Value} (news : List Value) (hA : AtS c S w (ob ++ rest)) (hr : RowV e size v n vs ob)
    (h : (holdL S S.env.known, appOf c.P c.N S, semOf c.P c.N S [], infoOf c.P t) = (holdR S, some (t, v, .slice A m cp, ty), some (appSem t ty v (.slice A m cp), []), some (e, z, size, bytes)))
    (hl : news.length = m * size) (hnews : ReadsAt w A news) (h1 : (news.all fun u => oneCell u) = true) (hmax : n + m ≤ 1000000000) (hb : bytes ≤ 140000)
    (k : ∀ v' w' ob', RowV e size v' (n + m) (vs ++ news) ob' → (v' = .slice none 0 0 ↔ v = .slice none 0 0 ∧ m = 0) → (v'.ownBlock = v.ownBlock ∨ v'.ownBlock = some w.heap.size) → w.heap.size ≤ w'.heap.size → AtS c (knS (valS c.N S v' w'.heap.size) S.env.known) w' (ob' ++ rest) → Run c (knS (valS c.N S v' w'.heap.size) S.env.known) w') : Run c S w := by
  by_cases hm : m = 0
  · subst hm
    have hn0 : news = [] := by simpa using hl
    subst hn0
    simp only [Prod.mk.injEq] at h
    obtain ⟨h0, -, hsem, hinf⟩ := h
    obtain ⟨i, ht, hi, hz, hsize, hby, hzs, hsz⟩ := infoOf_spec hinf
    have hrun : (appSem t ty v (.slice A 0 cp)).run c.P w = .ok (.value v) w := by
      unfold appSem
      rw [Sem.run_bind']
      rcases hr.2 with ⟨rfl, rfl, -⟩ | ⟨g, cap, cur, rfl, -, hc, -⟩
      · rw [run_append_empty w t ty e i ht hi none A 0 0 cp (Nat.le_refl _)]; rfl
      · rw [run_append_empty w t ty e i ht hi _ A n cap cp hc]; rfl
    exact opwD [] on (s := appSem t ty v (.slice A 0 cp)) (by rw [h0, hsem]) (nx := .value v) hrun (.inl rfl) hA.at_.resize hA.lo (k v w ob (by rw [List.append_nil]; exact hr) ⟨fun h => ⟨h, rfl⟩, fun h => h.1⟩ (.inl rfl) (Nat.le_refl _))
  · have hnn : news ≠ [] := fun h' => by
      obtain ⟨i, ht, hi, hz, hsize, hby, hzs, hsz⟩ := infoOf_spec (Prod.mk.inj (Prod.mk.inj (Prod.mk.inj h).2).2).2
      rw [h'] at hl
      have := Nat.mul_pos (Nat.pos_of_ne_zero hm) hsz
      simp at hl
      omega
    obtain ⟨a, rfl, hs⟩ := hnews hnn
    exact appGD news hA hr h hl hs h1 hmax hb k
/-- The same; the new row is told as a slice. -/
theorem appEDS {c : Ctx} {S : Sta} {w : World} {ob rest : List KB} {t e ty : TypeId} {z v : Value} {size bytes n m cp : Nat} {A : Option Addr} {vs : List Value} (news : List Value) (hA : AtS c S w (ob ++ rest)) (hr : RowV e size v n vs ob)
    (h : (holdL S S.env.known, appOf c.P c.N S, semOf c.P c.N S [], infoOf c.P t) = (holdR S, some (t, v, .slice A m cp, ty), some (appSem t ty v (.slice A m cp), []), some (e, z, size, bytes)))
    (hl : news.length = m * size) (hnews : ReadsAt w A news) (h1 : (news.all fun u => oneCell u) = true) (hmax : n + m ≤ 1000000000) (hb : bytes ≤ 140000)
    (h0 : 0 < n + m)
    (k : ∀ g' c' w' ob', RowV e size (.slice (some ⟨g', 0, none⟩) (n + m) c') (n + m) (vs ++ news) ob' → AtS c (knS (valS c.N S (.slice (some ⟨g', 0, none⟩) (n + m) c') w'.heap.size) S.env.known) w' (ob' ++ rest) → Run c (knS (valS c.N S (.slice (some ⟨g', 0, none⟩) (n + m) c') w'.heap.size) S.env.known) w') : Run c S w := by
  refine appED news hA hr h hl hnews h1 hmax hb fun v' w' ob' hr2 _ _ _ hA2 => ?_
  rcases hr2.2 with ⟨-, h9, -⟩ | ⟨g2, c2, u2, e2, -⟩
  · omega
  · subst e2
    exact k _ _ w' ob' hr2 hA2
theorem appES {c : Ctx} {S : Sta} {w : World} {ob rest : List KB} {t e ty : TypeId} {z v : Value} {size bytes n m cp : Nat} {A : Option Addr} {vs : List Value} (news : List Value) (hA : AtS c S w (ob ++ rest)) (hr : RowV e size v n vs ob)
    (h : (noDraw S, appOf c.P c.N S, semOf c.P c.N S [], infoOf c.P t) = (true, some (t, v, .slice A m cp, ty), some (appSem t ty v (.slice A m cp), []), some (e, z, size, bytes)))
    (hl : news.length = m * size) (hnews : ReadsAt w A news) (h1 : (news.all fun u => oneCell u) = true) (hmax : n + m ≤ 1000000000) (hb : bytes ≤ 140000)
    (h0 : 0 < n + m)
    (k : ∀ g' c' w' ob', RowV e size (.slice (some ⟨g', 0, none⟩) (n + m) c') (n + m) (vs ++ news) ob' → AtS c (knS (valS c.N S (.slice (some ⟨g', 0, none⟩) (n + m) c') w'.heap.size) S.env.known) w' (ob' ++ rest) → Run c (knS (valS c.N S (.slice (some ⟨g', 0, none⟩) (n + m) c') w'.heap.size) S.env.known) w') : Run c S w := by
  refine appE news hA hr h hl hnews h1 hmax hb fun v' w' ob' hr2 _ _ _ hA2 => ?_
  rcases hr2.2 with ⟨-, h9, -⟩ | ⟨g2, c2, u2, e2, -⟩
  · omega
  · subst e2
    exact k _ _ w' ob' hr2 hA2
theorem appNDS {c : Ctx} {S : Sta} {w : World} {rows : List KB} {t e ty : TypeId} {z : Value} {size bytes n cap m cp : Nat} {A A' : Option Addr} (olds news : List Value) (hA : AtS c S w rows)
    (h : (holdL S S.env.known, appOf c.P c.N S, semOf c.P c.N S [], infoOf c.P t) = (holdR S, some (t, .slice A n cap, .slice A' m cp, ty), some (appSem t ty (.slice A n cap) (.slice A' m cp), []), some (e, z, size, bytes)))
    (hlo : olds.length = n * size) (holds : ReadsAt w A olds) (hc : A = none → cap = 0) (hnc : n ≤ cap) (hl : news.length = m * size) (hnews : ReadsAt w A' news) (h1 : (news.all fun u => oneCell u) = true) (hg : cap < n + m) (hmax : n + m ≤ 1000000000) (hb : bytes ≤ 140000)
    (h0 : 0 < n + m)
    (k : ∀ g' c' w' ob', RowV e size (.slice (some ⟨g', 0, none⟩) (n + m) c') (n + m) (olds ++ news) ob' → AtS c (knS (valS c.N S (.slice (some ⟨g', 0, none⟩) (n + m) c') w'.heap.size) S.env.known) w' (ob' ++ rows) → Run c (knS (valS c.N S (.slice (some ⟨g', 0, none⟩) (n + m) c') w'.heap.size) S.env.known) w') : Run c S w := by
  refine appND olds news hA h hlo holds hc hnc hl hnews h1 hg hmax hb fun v' w' ob' hr2 _ _ hA2 => ?_
  rcases hr2.2 with ⟨-, h9, -⟩ | ⟨g2, c2, u2, e2, -⟩
  · omega
  · subst e2
    exact k _ _ w' ob' hr2 hA2
end Go.Proofs.YtbahiemjaomdcaaGreat

/- law of pool: finishes whose groups are those of another one; winners, told as a slice. -/
namespace Go.Proofs.YtbahiemjaomdcaaGreat
open Go.RowKit Go.Shelf

/-- The groups of a finish, as values. -/
def ValsAt (W : World) (B : Nat) (fs : List (List Int)) (vs : List Value) : Prop := vs.length = fs.length ∧ ∀ j, j < fs.length → ∃ A c, vs[j]? = some (.slice A (fs[j]?.getD []).length c) ∧ (fs[j]?.getD []).length ≤ c ∧ IntsAt W B A (fs[j]?.getD []).length (fs[j]?.getD [])
theorem ValsAt.below {W w : World} {fs : List (List Int)} {vs : List Value} (h : ValsAt W W.heap.size fs vs) (hb : Below W.heap.size W w) : ValsAt w w.heap.size fs vs :=
  ⟨h.1, fun j hj => by obtain ⟨A, c, h1, h2, h3⟩ := h.2 j hj; exact ⟨A, c, h1, h2, (h3.below hb (Nat.le_refl _)).more hb.size⟩⟩
theorem ValsAt.ones {W : World} {B : Nat} {fs : List (List Int)} {vs : List Value} (h : ValsAt W B fs vs) : (vs.all fun u => oneCell u) = true := by
  rw [List.all_eq_true]
  intro v hv
  obtain ⟨j, hj, rfl⟩ := List.mem_iff_getElem.1 hv
  obtain ⟨A, c, h1, -, -⟩ := h.2 j (by have := h.1; omega)
  rw [List.getElem?_eq_getElem hj] at h1
  rw [Option.some.inj h1]
  rfl
theorem reads_below {W w : World} {A : Option Addr} {vs : List Value} (h : ReadsAt W A vs) (hb : Below W.heap.size W w) : ReadsAt w A vs := fun hne => by
  obtain ⟨a, e, hc⟩ := h hne
  exact ⟨a, e, fun j u hu => (hb.cell (cell_lt (hc j u hu)).1).trans (hc j u hu)⟩
theorem fin_vals {w : World} {B : Nat} {A : Option Addr} {n : Nat} {fs : List (List Int)} (h : FinAt w B A n fs) : ∃ vs, vs.length = n ∧ ReadsAt w A vs ∧ ValsAt w B fs vs := by
  have hl := h.1
  rcases Nat.eq_zero_or_pos n with h0 | h0
  · refine ⟨[], by rw [h0]; rfl, ReadsAt.nil _ _, by rw [hl, h0]; rfl, fun j hj => absurd hj (by omega)⟩
  · obtain ⟨b, off, rfl, -, hc⟩ := h.2.2 h0
    have each : ∀ j, j < n → ∃ v : Value, ∃ A c, v = .slice A (fs[j]?.getD []).length c ∧ (fs[j]?.getD []).length ≤ c ∧ IntsAt w B A (fs[j]?.getD []).length (fs[j]?.getD []) ∧ w.cell? ⟨b, off + j, none⟩ = some v := fun j hj => by
      obtain ⟨A, c, h1, h2, h3⟩ := hc j hj
      exact ⟨_, A, c, rfl, h2, h3, by simpa using h1⟩
    obtain ⟨fx, hfx⟩ := Go.Deep.choose_lt each
    have get : ∀ j, j < n → ((List.range n).map fx)[j]? = some (fx j) := fun j hj => by rw [List.getElem?_map, List.getElem?_range hj]; rfl
    refine ⟨(List.range n).map fx, by simp, fun _ => ⟨_, rfl, fun j u hu => ?_⟩, by simp [hl], fun j hj => ?_⟩
    · have hj : j < n := by have := (List.getElem?_eq_some_iff.1 hu).1; simpa using this
      rw [get j hj] at hu
      cases hu
      obtain ⟨A, c, h1, h2, h3, h4⟩ := hfx j hj
      rw [add_place]
      exact h4
    · obtain ⟨A, c, h1, h2, h3, h4⟩ := hfx j (by omega)
      exact ⟨A, c, by rw [get j (by omega), h1], h2, h3⟩
theorem fin_row {w : World} {g n c : Nat} {vs : List Value} {ob : List KB} {fs : List (List Int)} (hr : RowV 23 1 (.slice (some ⟨g, 0, none⟩) n c) n vs ob) (hk : ∀ kb ∈ ob, w.heap[kb.id]? = some kb.obj) (hv : ValsAt w w.heap.size fs vs) (hn : n ≤ 1000) : FinAt w w.heap.size (some ⟨g, 0, none⟩) n fs := by
  have hl := hr.1
  rw [Nat.mul_one] at hl
  have hl2 := hv.1
  rcases hr.2 with ⟨e1, -, -⟩ | ⟨g', cap, cur, e1, e2, h3, h4, h5, h6⟩
  · cases e1
  · cases e1
    subst e2
    have hb := hk _ List.mem_cons_self
    have hb : w.heap[g]? = some (.cells cur 23 (0, 0)) := hb
    refine ⟨by omega, by omega, fun _ => ⟨g, 0, rfl, (Array.getElem?_eq_some_iff.1 hb).1, fun j hj => ?_⟩⟩
    obtain ⟨A, c, h7, h8, h9⟩ := hv.2 j (by omega)
    refine ⟨A, c, cell_of_obj (T := 23) (fz := (0, 0)) hb rfl ?_, h8, h9⟩
    show cur[0 + j]? = _
    rw [Nat.zero_add, ← h7, ← h6, Nat.mul_one, List.getElem?_take_of_lt hj, Array.getElem?_toList]
theorem ValsAt.snoc {w : World} {fs : List (List Int)} {vs : List Value} {A : Option Addr} {c : Nat} {F : List Int} (h : ValsAt w w.heap.size fs vs) (hc : F.length ≤ c) (hx : IntsAt w w.heap.size A F.length F) : ValsAt w w.heap.size (fs ++ [F]) (vs ++ [.slice A F.length c]) := by
  have hl := h.1
  refine ⟨by simp [hl], fun j hj => ?_⟩
  rw [List.length_append] at hj
  by_cases e : j < fs.length
  · obtain ⟨A', c', h1, h2, h3⟩ := h.2 j e
    rw [List.getElem?_append_left (by omega), List.getElem?_append_left e]
    exact ⟨A', c', h1, h2, h3⟩
  · have hj2 : j = fs.length := by simp at hj; omega
    subst hj2
    rw [List.getElem?_append_right (by omega), List.getElem?_append_right (Nat.le_refl _), ← hl, Nat.sub_self]
    exact ⟨A, c, rfl, hc, hx⟩
theorem int_row {w : World} {k : Nat} {r : Int} (h : w.heap[k]? = some (.cells #[.int .i64 r] 3 (0, 0))) : IntsAt w w.heap.size (some ⟨k, 0, none⟩) 1 [r] :=
  ⟨rfl, by omega, fun _ => ⟨k, 0, rfl, (Array.getElem?_eq_some_iff.1 h).1, fun j hj => by
    obtain rfl : j = 0 := by omega
    exact cell_of_obj (T := 3) (fz := (0, 0)) h rfl rfl⟩⟩
/-- The winners, told as a slice. -/
theorem WinnersS_any (w : World) (B : Nat) (b : Bk) (A : Option Addr) (n c : Nat) (A2 : Option Addr) (m c2 : Nat) (A3 : Option Addr) (nf cf : Nat) (fs : List (List Int)) (WN : Nat) (h : BkAt w B b A n c A2 m c2) (hf : FinAt w B A3 nf fs) (hB : B ≤ w.heap.size) (h0 : bookF b = 0) (hfin : isFinF b fs = true) (hl : (winF b fs).length = WN) : Calls Tryz.prog 21 #[bkV b A n c A2 m c2, .slice A3 nf cf] w fun e w' => ∃ A9 c9, e = .returned (.tuple #[.slice A9 WN c9, .int .i64 0]) ∧ Below w.heap.size w w' ∧ w'.ownsRow w.heap.size 57 2 (.slice A9 WN c9) WN (encW (winF b fs)) := by
  subst hl
  have hat : atF b fs = 0 := by unfold atF; rw [if_pos h0, if_pos hfin]
  have hw : winA b fs = winF b fs := if_pos hat
  refine (Winners_any w B b A n c A2 m c2 A3 nf cf fs h hf hB).mono ?_
  rw [hw, hat]
  rintro e w' ⟨v, rfl, hb, ho, -⟩
  obtain ⟨A9, c9, rfl⟩ := own_slice ho
  exact ⟨A9, c9, rfl, hb, ho⟩
theorem win_few {b : Bk} {fs : List (List Int)} (h0 : bookF b = 0) (hfin : isFinF b fs = true) : (winF b fs).length ≤ 1000 := (at_ok (b := b) (fs := fs) (by unfold atF; rw [if_pos h0, if_pos hfin])).2.ws
end Go.Proofs.YtbahiemjaomdcaaGreat

/- quinellalaw03: the sums of PoolShared. -/
namespace Go.Proofs.YtbahiemjaomdcaaGreat
open Go.RowKit Go.Shelf

theorem bkd_split {b : Bk} {fs : List (List Int)} {i : Nat} (h : i < (winF b fs).length) (hu : uL (tilF b) b.bets ((winF b fs)[i]?.getD (0, 0)) ≠ 0) : (bkN' b fs i).length < (bkd (tilF b) fs).length ∧ (bkd (tilF b) fs)[(bkN' b fs i).length]?.getD (0, 0) = (winF b fs)[i]?.getD (0, 0) := by
  have e : bkd (tilF b) fs = bkN' b fs i ++ (((winF b fs)[i]?.getD (0, 0)) :: ((winF b fs).drop (i + 1)).filter fun s => decide (uL (tilF b) b.bets s ≠ 0)) := by
    show (winF b fs).filter (fun s => decide (uL (tilF b) b.bets s ≠ 0)) = _
    unfold bkN'
    conv => lhs; rw [split_at (d := (0, 0)) h]
    rw [List.filter_append, List.filter_cons_of_pos (by simpa using hu)]
  rw [e]
  refine ⟨by rw [List.length_append]; simp, ?_⟩
  rw [List.getElem?_append_right (Nat.le_refl _), Nat.sub_self]
  rfl
def pdN (b : Bk) (fs : List (List Int)) (i : Nat) : Int := ((bkN' b fs i).map fun s => dvF (tilF b) fs s * uL (tilF b) b.bets s).sum
theorem sh_few {b : Bk} (V : ValidB b) (fs : List (List Int)) : 0 ≤ shF (tilF b) fs ∧ shF (tilF b) fs ≤ 20000000 := by
  obtain ⟨⟨n1, n2, n3⟩, n4, n5⟩ := net_facts V
  have h := tdiv_le n3 ((bkd (tilF b) fs).length)
  unfold shF
  omega
where
  tdiv_le {x : Int} (hx : 0 ≤ x) (L : Nat) : 0 ≤ x.tdiv (L : Int) ∧ x.tdiv (L : Int) ≤ x := by
    rw [Int.tdiv_eq_ediv_of_nonneg hx]
    refine ⟨Int.ediv_nonneg hx (by omega), ?_⟩
    exact Int.ediv_le_self _ hx
theorem dv_all {b : Bk} {fs : List (List Int)} (V : ValidB b) {s : Int × Int} (hs : s ∈ bkd (tilF b) fs) : (0 ≤ dvF (tilF b) fs s ∧ dvF (tilF b) fs s ≤ shF (tilF b) fs) ∧ (dvF (tilF b) fs s).tmod b.stp = 0 ∧ (0 ≤ dvF (tilF b) fs s * uL (tilF b) b.bets s ∧ dvF (tilF b) fs s * uL (tilF b) b.bets s ≤ shF (tilF b) fs) ∧ shF (tilF b) fs < (dvF (tilF b) fs s + b.stp) * uL (tilF b) b.bets s ∧ (dvF (tilF b) fs s + b.stp) * uL (tilF b) b.bets s ≤ shF (tilF b) fs + 100 * uL (tilF b) b.bets s := by
  obtain ⟨h1, h2, h3, h4, h5⟩ := dv_facts V hs
  have hst := V.stp
  have hm := Int.mul_nonneg h3 (Int.le_of_lt h1)
  have hle : dvF (tilF b) fs s * 1 ≤ dvF (tilF b) fs s * uL (tilF b) b.bets s := Int.mul_le_mul_of_nonneg_left (by omega) h3
  have hpos : 0 < uL (tilF b) b.bets s * b.stp := Int.mul_pos h1 (by omega)
  have hlt := Int.lt_ediv_add_one_mul_self (shF (tilF b) fs) hpos
  have e1 : (shF (tilF b) fs / (uL (tilF b) b.bets s * b.stp) + 1) * (uL (tilF b) b.bets s * b.stp) = (dvF (tilF b) fs s + b.stp) * uL (tilF b) b.bets s := by
    rw [h5, Int.add_mul, Int.add_mul, Int.one_mul, Int.mul_comm (uL (tilF b) b.bets s) b.stp, ← Int.mul_assoc]
  have e2 : (dvF (tilF b) fs s + b.stp) * uL (tilF b) b.bets s = dvF (tilF b) fs s * uL (tilF b) b.bets s + b.stp * uL (tilF b) b.bets s := Int.add_mul _ _ _
  have h6 : b.stp * uL (tilF b) b.bets s ≤ 100 * uL (tilF b) b.bets s := Int.mul_le_mul_of_nonneg_right hst.2 (Int.le_of_lt h1)
  refine ⟨⟨h3, by omega⟩, ?_, ⟨hm, h4⟩, by omega, by omega⟩
  rw [h5, Int.mul_tmod_left]
theorem acc_none {b : Bk} {fs : List (List Int)} (h0 : bookF b = 0) (h : isFinF b fs = true) (hb : bkd (tilF b) fs = []) : (AccountF b fs).paid = 0 ∧ (AccountF b fs).kept = 0 ∧ (AccountF b fs).over = (netA b).over := by
  rw [acc_eq h0 h, if_pos hb]
  exact ⟨rfl, rfl, rfl⟩
theorem acc_some {b : Bk} {fs : List (List Int)} (h0 : bookF b = 0) (h : isFinF b fs = true) (hb : bkd (tilF b) fs ≠ []) : (AccountF b fs).paid = pdF (tilF b) fs ∧ (AccountF b fs).over = 0 := by
  rw [acc_eq h0 h, if_neg hb]
  exact ⟨rfl, rfl⟩
end Go.Proofs.YtbahiemjaomdcaaGreat

/- law of pool: PoolShared. -/
namespace Go.Proofs.YtbahiemjaomdcaaGreat
open Go.RowKit Go.Shelf

set_option maxHeartbeats 4000000 in
set_option maxRecDepth 20000 in
theorem PoolShared_any (w : World) (B : Nat) (b : Bk) (A : Option Addr) (n c : Nat) (A2 : Option Addr) (m c2 : Nat) (A3 : Option Addr) (ny cy : Nat) (ys : List Int) (h : BkAt w B b A n c A2 m c2) (hy : U8At w B A3 ny ys) (hB : B ≤ w.heap.size) : Calls Tryz.prog 5 #[bkV b A n c A2 m c2, .slice A3 ny cy] w fun e w' => e = .returned (.bool true) ∧ Below w.heap.size w w' := by
  refine enter 188 Tryz.func5 (by kernel_rfl) fun hA => ?_
  refine runS hA 10 (List.replicate 8 (.k 0)) xn on (by kernel_rfl) fun w1 hA => ?_
  have hbl := h.bets.1
  have hxl := h.scr.1
  have hyl := hy.1
  refine callB hA [] on (fine_any w1 B b A n c A2 m c2 (h.below hA.below hB) (Nat.le_trans hB hA.size)) (by kernel_rfl) fun w2 hb2 hA => ?_
  by_cases hfi : ¬ (110 < n ∨ 20 < m) ∧ bookF b = 0
  case neg =>
    refine revals hA (rc 19 (show .bool (decide (¬ (110 < n ∨ 20 < m) ∧ bookF b = 0)) = .bool false by rw [decide_eq_false hfi]) rn) (by kernel_rfl) fun hA => ?_
    refine runS hA 11 [.g true, .g true, .g true] xn (oc (rfl : Value.bool true = .bool true) (oc (rfl : Value.bool true = .bool true) (oc (rfl : Value.bool true = .bool true) on))) (by kernel_rfl) fun w3 hA => ?_
    refine callB hA [] on (Works_any w3) (by kernel_rfl) fun w4 hb4 hA => ?_
    refine runS hA 5 [] xn on (by kernel_rfl) fun w5 hA => ?_
    exact ret (v := .bool true) hA [] (by kernel_rfl) ⟨rfl, hA.below⟩
  case pos =>
    obtain ⟨hgr, h0⟩ := hfi
    have V := valid_of h0
    have hv1 := V.run
    have hv2 := V.len
    refine revals hA (rc 19 (show .bool (decide (¬ (110 < n ∨ 20 < m) ∧ bookF b = 0)) = .bool true by rw [decide_eq_true ⟨hgr, h0⟩]) rn) (by kernel_rfl) fun hA => ?_
    refine runS hA 5 [.g false, .g false, .g false] xn (oc (rfl : Value.bool false = .bool false) (oc (rfl : Value.bool false = .bool false) (oc (rfl : Value.bool false = .bool false) on))) (by kernel_rfl) fun w3 hA => ?_
    by_cases h20 : (ny : Int) > 20
    case pos =>
      refine revals hA (rc 24 (dec_t h20) rn) (by kernel_rfl) fun hA => ?_
      refine runS hA 6 [] xn on (by kernel_rfl) fun w4 hA => ?_
      refine callB hA [] on (Works_any w4) (by kernel_rfl) fun w5 hb5 hA => ?_
      refine runS hA 5 [] xn on (by kernel_rfl) fun w6 hA => ?_
      exact ret (v := .bool true) hA [] (by kernel_rfl) ⟨rfl, hA.below⟩
    case neg =>
      refine revals hA (rc 24 (dec_f h20) rn) (by kernel_rfl) fun hA => ?_
      refine runS hA 10 (List.replicate 8 (.k 0)) xn on (by kernel_rfl) fun w4 hA => ?_
      have hfin := finL_isFin V ys
      have hat0 := finL_at h0 ys
      have hq9 : ∃ FN, FN = (finL b ys 8).length := ⟨_, rfl⟩
      obtain ⟨FN, hFN⟩ := hq9
      have hq9 : ∃ WN, WN = (winF b (finL b ys 8)).length := ⟨_, rfl⟩
      obtain ⟨WN, hWN⟩ := hq9
      have hW9 : WN ≤ 1000 := by rw [hWN]; exact win_few h0 hfin
      have hq9 : ∃ LN, LN = (dvL b (finL b ys 8)).length := ⟨_, rfl⟩
      obtain ⟨LN, hLN⟩ := hq9
      have hL9 : LN ≤ 1000 := by rw [hLN]; exact dvL_len2 h0 hfin
      have hLb : LN = (bkd (tilF b) (finL b ys 8)).length := by rw [hLN, dvL_len]
      have hq9 : ∃ a, a = AccountF b (finL b ys 8) := ⟨_, rfl⟩
      obtain ⟨a, ha⟩ := hq9
      have hApf := hA.atK [⟨w.heap.size, .cells #[.int .i64 b.kind, .int .i64 b.runners, .slice A n c, .slice A2 m c2, .bool b.fav, .int .i64 b.car, .int .i64 b.dut, .int .i64 b.stp] 25 (0, 0)⟩] (by kernel_rfl)
      have hP := Finish_any w4 B b A n c A2 m c2 A3 ny cy ys (h.below hA.below hB) (hy.below hA.below hB) (Nat.le_trans hB hA.size) V
      rw [← hFN] at hP
      refine call hA [] on (hP) (by kernel_rfl) (by rintro e v ⟨Af, cf, ob, rfl, hbf, hof, hfk⟩; exact hbf) ?_
      rintro e w5 ⟨Af, cf, ob, rfl, hbf, hof, hfk⟩
      refine ⟨_, rfl, fun hA => ?_⟩
      have hA2f := At.ownL hApf hbf hof
      refine reknow ⟨[⟨w.heap.size, .cells #[.int .i64 b.kind, .int .i64 b.runners, .slice A n c, .slice A2 m c2, .bool b.fav, .int .i64 b.car, .int .i64 b.dut, .int .i64 b.stp] 25 (0, 0)⟩], w5.heap.size, [], [], [], [], []⟩ hA2f (Nat.zero_le _) fun hA => ?_
      refine runS hA 7 (List.replicate 8 (.k 0)) xn on (by kernel_rfl) fun w6 hA => ?_
      have hApw := hA.atK [⟨w.heap.size, .cells #[.int .i64 b.kind, .int .i64 b.runners, .slice A n c, .slice A2 m c2, .bool b.fav, .int .i64 b.car, .int .i64 b.dut, .int .i64 b.stp] 25 (0, 0)⟩] (by kernel_rfl)
      refine call hA [] on (WinnersS_any w6 w6.heap.size b A n c A2 m c2 Af FN cf (finL b ys 8) WN ((h.below hA.below hB).more (Nat.le_trans hB hA.size)) (hfk _ (fun kb hk => hA.at_.rok kb (List.mem_append_left _ hk))) (Nat.le_refl _) h0 hfin hWN.symm) (by kernel_rfl) (by rintro e v ⟨Aw, cw, rfl, hbw, how⟩; exact hbw) ?_
      rintro e w7 ⟨Aw, cw, rfl, hbw, how⟩
      refine ⟨_, rfl, fun hA => ?_⟩
      have hq9 := At.own hApw hbw how
      obtain ⟨ob8w, hrw, hA2w⟩ := hq9
      refine reknow ⟨[⟨w.heap.size, .cells #[.int .i64 b.kind, .int .i64 b.runners, .slice A n c, .slice A2 m c2, .bool b.fav, .int .i64 b.car, .int .i64 b.dut, .int .i64 b.stp] 25 (0, 0)⟩], w7.heap.size, [], [], [], [], []⟩ hA2w (Nat.zero_le _) fun hA => ?_
      have hptw := row_at hrw (by omega)
      refine runS hA 11 (List.replicate 8 (.k 0)) xn on (by kernel_rfl) fun w8 hA => ?_
      have hApl := hA.atK [⟨w.heap.size, .cells #[.int .i64 b.kind, .int .i64 b.runners, .slice A n c, .slice A2 m c2, .bool b.fav, .int .i64 b.car, .int .i64 b.dut, .int .i64 b.stp] 25 (0, 0)⟩] (by kernel_rfl)
      refine call hA [] on (paidS_any w8 w8.heap.size b A n c A2 m c2 Af FN cf (finL b ys 8) (dvL b (finL b ys 8)) LN ((h.below hA.below hB).more (Nat.le_trans hB hA.size)) (hfk _ (fun kb hk => hA.at_.rok kb (List.mem_append_right _ (List.mem_append_left _ hk)))) (Nat.le_refl _) h0 hfin rfl hLN.symm) (by kernel_rfl) (by rintro e v ⟨Al, cl, rfl, hbl, hol⟩; exact hbl) ?_
      rintro e w9 ⟨Al, cl, rfl, hbl, hol⟩
      refine ⟨_, rfl, fun hA => ?_⟩
      have hq9 := At.own hApl hbl hol
      obtain ⟨ob8l, hrl, hA2l⟩ := hq9
      refine reknow ⟨[⟨w.heap.size, .cells #[.int .i64 b.kind, .int .i64 b.runners, .slice A n c, .slice A2 m c2, .bool b.fav, .int .i64 b.car, .int .i64 b.dut, .int .i64 b.stp] 25 (0, 0)⟩], w9.heap.size, [], [], [], [], []⟩ hA2l (Nat.zero_le _) fun hA => ?_
      have hptl := row_at hrl (by omega)
      refine runS hA 11 (List.replicate 8 (.k 0)) xn on (by kernel_rfl) fun w10 hA => ?_
      have hP := Account_any w10 w10.heap.size b A n c A2 m c2 Af FN cf (finL b ys 8) ((h.below hA.below hB).more (Nat.le_trans hB hA.size)) (hfk _ (fun kb hk => hA.at_.rok kb (List.mem_append_right _ (List.mem_append_right _ (List.mem_append_left _ hk))))) (Nat.le_refl _)
      rw [← ha, hat0] at hP
      refine callB hA [] on (hP) (by kernel_rfl) fun w11 hb11 hA => ?_
      refine runS hA 21 (List.replicate 6 (.k 1) ++ List.replicate 4 (.g false)) xn (oc (rfl : Value.bool false = .bool false) (oc (rfl : Value.bool false = .bool false) (oc (rfl : Value.bool false = .bool false) (oc (rfl : Value.bool false = .bool false) on)))) (by kernel_rfl) fun w12 hA => ?_
      have hf1 := (hfk _ (fun kb hk => hA.at_.rok kb (List.mem_append_right _ (List.mem_append_right _ (List.mem_append_left _ hk)))))
      have hx1 : BkAt w12 w12.heap.size b A n c A2 m c2 := ((h.below hA.below hB).more (Nat.le_trans hB hA.size))
      have hRw := hptw _ (fun kb hk => hA.at_.rok kb (List.mem_append_right _ (List.mem_append_left _ hk)))
      have hRl := hptl _ (fun kb hk => hA.at_.rok kb (List.mem_append_left _ hk))
      have hK0 := hA.atK [⟨w.heap.size, .cells #[.int .i64 b.kind, .int .i64 b.runners, .slice A n c, .slice A2 m c2, .bool b.fav, .int .i64 b.car, .int .i64 b.dut, .int .i64 b.stp] 25 (0, 0)⟩, ⟨w11.heap.size, .cells #[.int .i64 a.inn, .int .i64 a.back, .int .i64 a.duty, .int .i64 a.paid, .int .i64 a.kept, .int .i64 a.over] 35 (0, 0)⟩] (by kernel_rfl)
      have hobb := hK0.ok ⟨w.heap.size, .cells #[.int .i64 b.kind, .int .i64 b.runners, .slice A n c, .slice A2 m c2, .bool b.fav, .int .i64 b.car, .int .i64 b.dut, .int .i64 b.stp] 25 (0, 0)⟩ (List.mem_of_getElem? (i := 0) (by kernel_rfl))
      have hcb0 := cell_lt (cell_of_obj (a := ⟨w.heap.size, 0, none⟩) hobb rfl rfl)
      have hcb1 := cell_lt (cell_of_obj (a := ⟨w.heap.size, 1, none⟩) hobb rfl rfl)
      have hcb2 := cell_lt (cell_of_obj (a := ⟨w.heap.size, 2, none⟩) hobb rfl rfl)
      have hcb3 := cell_lt (cell_of_obj (a := ⟨w.heap.size, 3, none⟩) hobb rfl rfl)
      have hcb4 := cell_lt (cell_of_obj (a := ⟨w.heap.size, 4, none⟩) hobb rfl rfl)
      have hcb5 := cell_lt (cell_of_obj (a := ⟨w.heap.size, 5, none⟩) hobb rfl rfl)
      have hcb6 := cell_lt (cell_of_obj (a := ⟨w.heap.size, 6, none⟩) hobb rfl rfl)
      have hcb7 := cell_lt (cell_of_obj (a := ⟨w.heap.size, 7, none⟩) hobb rfl rfl)
      have hoba := hK0.ok ⟨w11.heap.size, .cells #[.int .i64 a.inn, .int .i64 a.back, .int .i64 a.duty, .int .i64 a.paid, .int .i64 a.kept, .int .i64 a.over] 35 (0, 0)⟩ (List.mem_of_getElem? (i := 1) (by kernel_rfl))
      have hca0 := cell_lt (cell_of_obj (a := ⟨w11.heap.size, 0, none⟩) hoba rfl rfl)
      have hca1 := cell_lt (cell_of_obj (a := ⟨w11.heap.size, 1, none⟩) hoba rfl rfl)
      have hca2 := cell_lt (cell_of_obj (a := ⟨w11.heap.size, 2, none⟩) hoba rfl rfl)
      have hca3 := cell_lt (cell_of_obj (a := ⟨w11.heap.size, 3, none⟩) hoba rfl rfl)
      have hca4 := cell_lt (cell_of_obj (a := ⟨w11.heap.size, 4, none⟩) hoba rfl rfl)
      have hca5 := cell_lt (cell_of_obj (a := ⟨w11.heap.size, 5, none⟩) hoba rfl rfl)
      have hWb := hA.below
      have hWs := hA.size
      refine rebase hA w12 (by kernel_rfl) (At.start _) fun hA => ?_
      refine runS hA 10 [] xn on (by kernel_rfl) fun w13 hA => ?_
      by_cases hl0 : LN = 0
      case pos =>
        have hb0 : bkd (tilF b) (finL b ys 8) = [] := List.length_eq_zero_iff.1 (by omega)
        have han := acc_none h0 hfin hb0
        rw [← ha] at han
        refine runS hA 5 [.b true] xn (oc (eq_t (a := (LN : Int)) (b := 0) (by omega)) on) (by kernel_rfl) fun w14 hA => ?_
        refine draw hA [] [0, 1, 2, 3, 4, 5, 6, 7, 8, 9, 10, 11, 12, 13, 14, 15, 16, 17, 18, 19] (by kernel_rfl) (by kernel_rfl) fun hA => ?_
        refine runS hA 3 [.t 0, .t 1, .x (.int .i64 a.paid), .t 2] (xc (a := ⟨w11.heap.size, 3, none⟩) hca3 xn) on (by kernel_rfl) fun w15 hA => ?_
        refine revals hA (rc 63 (eq_t (a := a.paid) (b := 0) han.1) rn) (by kernel_rfl) fun hA => ?_
        refine runS hA 4 [.t 3, .t 4, .g true, .t 5, .g true, .x (.int .i64 a.kept), .t 6, .g true] (xc (a := ⟨w11.heap.size, 4, none⟩) hca4 xn) (oc (rfl : Value.bool true = .bool true) (oc (rfl : Value.bool true = .bool true) (oc (rfl : Value.bool true = .bool true) on))) (by kernel_rfl) fun w16 hA => ?_
        refine revals hA (rc 67 (eq_t (a := a.kept) (b := 0) han.2.1) rn) (by kernel_rfl) fun hA => ?_
        refine runS hA 5 [.t 7, .t 8, .t 9, .g true, .t 10, .g true, .x (.int .i64 a.over), .t 11, .g true, .x (.int .i64 b.kind), .x (.int .i64 b.runners), .x (.slice A n c), .x (.slice A2 m c2), .x (.bool b.fav), .x (.int .i64 b.car), .x (.int .i64 b.dut), .x (.int .i64 b.stp)] (xc (a := ⟨w11.heap.size, 5, none⟩) hca5 (xc (a := ⟨w.heap.size, 0, none⟩) hcb0 (xc (a := ⟨w.heap.size, 1, none⟩) hcb1 (xc (a := ⟨w.heap.size, 2, none⟩) hcb2 (xc (a := ⟨w.heap.size, 3, none⟩) hcb3 (xc (a := ⟨w.heap.size, 4, none⟩) hcb4 (xc (a := ⟨w.heap.size, 5, none⟩) hcb5 (xc (a := ⟨w.heap.size, 6, none⟩) hcb6 (xc (a := ⟨w.heap.size, 7, none⟩) hcb7 xn))))))))) (oc (rfl : Value.bool true = .bool true) (oc (rfl : Value.bool true = .bool true) (oc (rfl : Value.bool true = .bool true) on))) (by kernel_rfl) fun w17 hA => ?_
        refine callB hA [] on (rNet_any w17 w12.heap.size b A n c A2 m c2 (hx1.below hA.below (Nat.le_refl _)) hA.size V) (by kernel_rfl) fun w18 hb18 hA => ?_
        refine runS hA 2 [.t 13, .g true, .t 14, .g true] xn (oc (rfl : Value.bool true = .bool true) (oc (rfl : Value.bool true = .bool true) on)) (by kernel_rfl) fun w19 hA => ?_
        refine revals hA (rc 75 (eq_t (a := a.over) (b := (netA b).over) han.2.2) rn) (by kernel_rfl) fun hA => ?_
        refine runS hA 2 [.t 15, .t 16] xn on (by kernel_rfl) fun w20 hA => ?_
        refine callB hA [] on (Works_any w20) (by kernel_rfl) fun w21 hb21 hA => ?_
        refine runS hA 6 [.t 18, .t 19, .b true] xn on (by kernel_rfl) fun w22 hA => ?_
        refine back hA (by kernel_rfl) (At.plain (hWb.trans (hA.below.mono hWs))) fun hA => ?_
        exact ret (v := .bool true) hA [] (by kernel_rfl) ⟨rfl, hA.below⟩
      case neg =>
        have hb0 : bkd (tilF b) (finL b ys 8) ≠ [] := fun e => hl0 (by rw [hLb, e]; rfl)
        have has := acc_some h0 hfin hb0
        rw [← ha] at has
        have hsf := sh_few V (finL b ys 8)
        refine runS hA 10 [.b false, .x (.int .i64 b.kind), .x (.int .i64 b.runners), .x (.slice A n c), .x (.slice A2 m c2), .x (.bool b.fav), .x (.int .i64 b.car), .x (.int .i64 b.dut), .x (.int .i64 b.stp)] (xc (a := ⟨w.heap.size, 0, none⟩) hcb0 (xc (a := ⟨w.heap.size, 1, none⟩) hcb1 (xc (a := ⟨w.heap.size, 2, none⟩) hcb2 (xc (a := ⟨w.heap.size, 3, none⟩) hcb3 (xc (a := ⟨w.heap.size, 4, none⟩) hcb4 (xc (a := ⟨w.heap.size, 5, none⟩) hcb5 (xc (a := ⟨w.heap.size, 6, none⟩) hcb6 (xc (a := ⟨w.heap.size, 7, none⟩) hcb7 xn)))))))) (oc (eq_f (a := (LN : Int)) (b := 0) (by omega)) on) (by kernel_rfl) fun w14 hA => ?_
        refine callB hA [] on (rShare_any w14 w12.heap.size b A n c A2 m c2 Af FN cf (finL b ys 8) (hx1.below hA.below (Nat.le_refl _)) (hf1.below hA.below (Nat.le_refl _)) hA.size V hfin) (by kernel_rfl) fun w15 hb15 hA => ?_
        refine revals hA (rc 82 (show .int .i64 (shR b (finL b ys 8)) = .int .i64 (shF (tilF b) (finL b ys 8)) by unfold shR; rw [if_neg hb0]) rn) (by kernel_rfl) fun hA => ?_
        refine runS hA 16 [] xn on (by kernel_rfl) fun w16 hA => ?_
        refine loop (γ := Nat) (fun i => [(2, .pointer (some ⟨w.heap.size, 0, none⟩)), (6, .slice Aw WN cw), (8, .slice Al LN cl), (10, .pointer (some ⟨w11.heap.size, 0, none⟩)), (12, .int .i64 (shF (tilF b) (finL b ys 8))), (13, .int .i64 ((bkN' b (finL b ys 8) i).length : Int)), (14, .int .i64 (pdN b (finL b ys 8) i)), (15, .int .i64 (i : Int))]) (fun i => []) (fun _ => []) (fun g i wr => (i ≤ WN ∧ g = WN - i) ∧ 0 ≤ (pdN b (finL b ys 8) i) ∧ (pdN b (finL b ys 8) i) ≤ 20000000 * (i : Int)) WN 0 [] hA (by kernel_rfl) (⟨⟨Nat.zero_le _, rfl⟩, Int.le_refl 0, Int.le_refl 0⟩) ?_
        rintro _ i wr ⟨⟨hi, rfl⟩, hp1, hp2⟩ J hJ hA
        have hbn := bkN_le b (finL b ys 8) i
        by_cases hlt : i < WN
        case neg =>
          have hba := bkN_all (b := b) (fs := (finL b ys 8)) (i := i) (by omega)
          refine runS hA 12 [.b false] xn (oc (dec_f (show ¬ (((i : Int) : Int) < (WN : Int)) by omega)) on) (by kernel_rfl) fun w17 hA => ?_
          refine leave hA (by kernel_rfl) fun hA => ?_
          refine revals hA (rc 13 (show .int .i64 ((bkN' b (finL b ys 8) i).length : Int) = .int .i64 (LN : Int) by rw [hba, hLb]) (rc 14 (show .int .i64 (pdN b (finL b ys 8) i) = .int .i64 a.paid by rw [has.1]; unfold pdN; rw [hba]; rfl) rn)) (by kernel_rfl) fun hA => ?_
          refine runS hA 8 [] xn on (by kernel_rfl) fun w18 hA => ?_
          refine revals hA (rc 173 (eq_t (a := (LN : Int)) (b := (LN : Int)) rfl) rn) (by kernel_rfl) fun hA => ?_
          refine runS hA 5 [.g true, .g true, .x (.int .i64 a.paid), .g true, .g true] (xc (a := ⟨w11.heap.size, 3, none⟩) hca3 xn) (oc (rfl : Value.bool true = .bool true) (oc (rfl : Value.bool true = .bool true) (oc (rfl : Value.bool true = .bool true) (oc (rfl : Value.bool true = .bool true) on)))) (by kernel_rfl) fun w19 hA => ?_
          refine revals hA (rc 178 (eq_t (a := a.paid) (b := a.paid) rfl) rn) (by kernel_rfl) fun hA => ?_
          refine runS hA 5 [.g true, .g true, .x (.int .i64 a.over), .g true] (xc (a := ⟨w11.heap.size, 5, none⟩) hca5 xn) (oc (rfl : Value.bool true = .bool true) (oc (rfl : Value.bool true = .bool true) (oc (rfl : Value.bool true = .bool true) on))) (by kernel_rfl) fun w20 hA => ?_
          refine revals hA (rc 183 (eq_t (a := a.over) (b := 0) has.2) rn) (by kernel_rfl) fun hA => ?_
          refine runS hA 2 [] xn on (by kernel_rfl) fun w21 hA => ?_
          refine callB hA [] on (Works_any w21) (by kernel_rfl) fun w22 hb22 hA => ?_
          refine runS hA 5 [] xn on (by kernel_rfl) fun w23 hA => ?_
          refine back hA (by kernel_rfl) (At.plain (hWb.trans (hA.below.mono hWs))) fun hA => ?_
          exact ret (v := .bool true) hA [] (by kernel_rfl) ⟨rfl, hA.below⟩
        case pos =>
          have hst := bkN_step (b := b) (fs := (finL b ys 8)) (i := i) (by omega)
          have hub := uL_bound (tilF b) ((winF b (finL b ys 8))[i]?.getD (0, 0)) b.bets (units_ok V)
          have hv2' := V.len
          have hq9 := hRw.2.2 (by omega)
          obtain ⟨bw, ow, rfl, hbw1, hcw⟩ := hq9
          have hq9 := hRl.2.2 (by omega)
          obtain ⟨bl1, ol, rfl, hbl1, hcl⟩ := hq9
          have hq9 := encW_get (winF b (finL b ys 8)) i (by omega)
          obtain ⟨ge0, ge1⟩ := hq9
          have e0 : bw < w12.heap.size ∧ w12.cell? ⟨bw, ow + i * 2, none⟩ = some (.int .i64 ((winF b (finL b ys 8))[i]?.getD (0, 0)).1) := ⟨hbw1, by have := hcw _ _ ge0; exact this⟩
          have e1 : bw < w12.heap.size ∧ w12.cell? ⟨bw, ow + i * 2 + 1, none⟩ = some (.int .i64 ((winF b (finL b ys 8))[i]?.getD (0, 0)).2) := ⟨hbw1, by have := hcw _ _ ge1; exact this⟩
          refine runS hA 15 [.b true] xn (oc (dec_t (show (((i : Int) : Int) < (WN : Int)) by omega)) on) (by kernel_rfl) fun w17 hA => ?_
          refine draw hA [] [0, 1, 2, 3, 4, 5, 6] (by kernel_rfl) (by kernel_rfl) fun hA => ?_
          refine runS hA 5 [.t 0, .x (.int .i64 b.kind), .x (.int .i64 b.runners), .x (.slice A n c), .x (.slice A2 m c2), .x (.bool b.fav), .x (.int .i64 b.car), .x (.int .i64 b.dut), .x (.int .i64 b.stp), .t 1, .t 2, .t 3, .i, .t 4, .x (.int .i64 (((winF b (finL b ys 8))[i]?.getD (0, 0)).1)), .x (.int .i64 (((winF b (finL b ys 8))[i]?.getD (0, 0)).2))] (xc (a := ⟨w.heap.size, 0, none⟩) hcb0 (xc (a := ⟨w.heap.size, 1, none⟩) hcb1 (xc (a := ⟨w.heap.size, 2, none⟩) hcb2 (xc (a := ⟨w.heap.size, 3, none⟩) hcb3 (xc (a := ⟨w.heap.size, 4, none⟩) hcb4 (xc (a := ⟨w.heap.size, 5, none⟩) hcb5 (xc (a := ⟨w.heap.size, 6, none⟩) hcb6 (xc (a := ⟨w.heap.size, 7, none⟩) hcb7 (xc (a := ⟨bw, ow + i * 2, none⟩) e0 (xc (a := ⟨bw, ow + i * 2 + 1, none⟩) e1 xn)))))))))) (oc (show (0 : Int) ≤ ((i : Int) : Int) ∧ ((i : Int) : Int) < (WN : Int) by omega) on) (by kernel_rfl) fun w18 hA => ?_
          refine callB hA [] on (rUnits_any w18 w12.heap.size b A n c A2 m c2 ((winF b (finL b ys 8))[i]?.getD (0, 0)) (hx1.below hA.below (Nat.le_refl _)) hA.size V) (by kernel_rfl) fun w19 hb19 hA => ?_
          refine runS hA 8 [.t 6, .b true] xn on (by kernel_rfl) fun w20 hA => ?_
          by_cases hu : (uL (tilF b) b.bets ((winF b (finL b ys 8))[i]?.getD (0, 0))) = 0
          case pos =>
            refine revals hA (rc 96 (eq_t hu) rn) (by kernel_rfl) fun hA => ?_
            refine runS hA 12 [] xn on (by kernel_rfl) fun w21 hA => ?_
            rw [if_neg (fun h9 => h9 hu), List.append_nil] at hst
            have hpd : (pdN b (finL b ys 8) (i + 1)) = (pdN b (finL b ys 8) i) := by unfold pdN; rw [hst]
            refine revals hA (rc 13 (show .int .i64 ((bkN' b (finL b ys 8) i).length : Int) = .int .i64 ((bkN' b (finL b ys 8) (i + 1)).length : Int) by rw [hst]) (rc 14 (show .int .i64 (pdN b (finL b ys 8) i) = .int .i64 (pdN b (finL b ys 8) (i + 1)) by rw [hpd]) (rc 15 (wr64 (x := (i : Int) + 1) (y := ((i + 1 : Nat) : Int)) (by omega) (by omega)) rn))) (by kernel_rfl) fun hA => ?_
            exact again hJ (WN - (i + 1)) (i + 1) [] hA (by omega) (by kernel_rfl) (⟨⟨by omega, rfl⟩, by rw [hpd]; exact hp1, by rw [hpd]; omega⟩)
          case neg =>
            rw [if_pos hu] at hst
            have hsp := bkd_split (b := b) (fs := (finL b ys 8)) (i := i) (by omega) hu
            have hle : (bkN' b (finL b ys 8) (i + 1)).length = (bkN' b (finL b ys 8) i).length + 1 := by rw [hst, List.length_append]; rfl
            have hq9 : ∃ p, p = (bkN' b (finL b ys 8) i).length := ⟨_, rfl⟩
            obtain ⟨p, hp⟩ := hq9
            rw [← hp] at hsp hle
            have hdg := dvL_get (b := b) (fs := (finL b ys 8)) (i := p) (by omega)
            rw [hsp.2] at hdg
            have hmem : ((winF b (finL b ys 8))[i]?.getD (0, 0)) ∈ bkd (tilF b) (finL b ys 8) := by rw [← hsp.2]; exact get_mem hsp.1
            have hda := dv_all V hmem
            have hq9 := encD_get (dvL b (finL b ys 8)) p (by omega)
            obtain ⟨gf0, gf1, gf2⟩ := hq9
            rw [hdg] at gf0 gf1 gf2
            have f0 : bl1 < w12.heap.size ∧ w12.cell? ⟨bl1, ol + p * 3, none⟩ = some (.int .i64 ((winF b (finL b ys 8))[i]?.getD (0, 0)).1) := ⟨hbl1, by have := hcl _ _ gf0; exact this⟩
            have f1 : bl1 < w12.heap.size ∧ w12.cell? ⟨bl1, ol + p * 3 + 1, none⟩ = some (.int .i64 ((winF b (finL b ys 8))[i]?.getD (0, 0)).2) := ⟨hbl1, by have := hcl _ _ gf1; exact this⟩
            have f2 : bl1 < w12.heap.size ∧ w12.cell? ⟨bl1, ol + p * 3 + 2, none⟩ = some (.int .i64 (dvF (tilF b) (finL b ys 8) ((winF b (finL b ys 8))[i]?.getD (0, 0)))) := ⟨hbl1, by have := hcl _ _ gf2; exact this⟩
            have hpd : (pdN b (finL b ys 8) (i + 1)) = (pdN b (finL b ys 8) i) + (dvF (tilF b) (finL b ys 8) ((winF b (finL b ys 8))[i]?.getD (0, 0))) * (uL (tilF b) b.bets ((winF b (finL b ys 8))[i]?.getD (0, 0))) := by unfold pdN; rw [hst, List.map_append, List.sum_append]; simp
            refine revals hA (rc 13 (show .int .i64 ((bkN' b (finL b ys 8) i).length : Int) = .int .i64 (p : Int) by rw [hp]) (rc 96 (eq_f hu) rn)) (by kernel_rfl) fun hA => ?_
            refine runS hA 7 [] xn on (by kernel_rfl) fun w21 hA => ?_
            refine draw hA [] [0, 1, 2, 3, 4, 5, 6, 7, 8, 9, 10, 11, 12, 13, 14, 15, 16, 17, 18, 19, 20, 21, 22, 23, 24, 25, 26, 27, 28, 29] (by kernel_rfl) (by kernel_rfl) fun hA => ?_
            refine runS hA 41 [.t 0, .t 1, .t 2, .t 3, .t 4, .t 5, .g false, .t 6, .g false, .t 7, .g false, .i, .t 8, .g false, .t 9, .g false, .x (.int .i64 (((winF b (finL b ys 8))[i]?.getD (0, 0)).1)), .t 10, .g false, .t 11, .g false, .t 12, .g false, .i, .t 13, .g false, .t 14, .g false, .x (.int .i64 (((winF b (finL b ys 8))[i]?.getD (0, 0)).1)), .t 15, .g false, .t 16, .t 17, .t 18, .g false, .t 19, .g false, .t 20, .g false, .i, .t 21, .g false, .t 22, .g false, .x (.int .i64 (((winF b (finL b ys 8))[i]?.getD (0, 0)).2)), .t 23, .g false, .t 24, .g false, .t 25, .g false, .i, .t 26, .g false, .t 27, .g false, .x (.int .i64 (((winF b (finL b ys 8))[i]?.getD (0, 0)).2)), .t 28, .g false, .t 29, .b true, .b false, .i] (xc (a := ⟨bl1, ol + p * 3, none⟩) f0 (xc (a := ⟨bw, ow + i * 2, none⟩) e0 (xc (a := ⟨bl1, ol + p * 3 + 1, none⟩) f1 (xc (a := ⟨bw, ow + i * 2 + 1, none⟩) e1 xn)))) (oc (dec_f (show ¬ (((p : Int) : Int) ≥ (LN : Int)) by omega)) (oc (rfl : Value.bool false = .bool false) (oc (rfl : Value.bool false = .bool false) (oc (show (0 : Int) ≤ ((p : Int) : Int) ∧ ((p : Int) : Int) < (LN : Int) by omega) (oc (rfl : Value.bool false = .bool false) (oc (rfl : Value.bool false = .bool false) (oc (rfl : Value.bool false = .bool false) (oc (rfl : Value.bool false = .bool false) (oc (rfl : Value.bool false = .bool false) (oc (show (0 : Int) ≤ ((i : Int) : Int) ∧ ((i : Int) : Int) < (WN : Int) by omega) (oc (rfl : Value.bool false = .bool false) (oc (rfl : Value.bool false = .bool false) (oc (rfl : Value.bool false = .bool false) (oc (ne_f (a := ((winF b (finL b ys 8))[i]?.getD (0, 0)).1) (b := ((winF b (finL b ys 8))[i]?.getD (0, 0)).1) rfl) (oc (rfl : Value.bool false = .bool false) (oc (rfl : Value.bool false = .bool false) (oc (show (0 : Int) ≤ ((p : Int) : Int) ∧ ((p : Int) : Int) < (LN : Int) by omega) (oc (rfl : Value.bool false = .bool false) (oc (rfl : Value.bool false = .bool false) (oc (rfl : Value.bool false = .bool false) (oc (rfl : Value.bool false = .bool false) (oc (rfl : Value.bool false = .bool false) (oc (show (0 : Int) ≤ ((i : Int) : Int) ∧ ((i : Int) : Int) < (WN : Int) by omega) (oc (rfl : Value.bool false = .bool false) (oc (rfl : Value.bool false = .bool false) (oc (rfl : Value.bool false = .bool false) (oc (ne_f (a := ((winF b (finL b ys 8))[i]?.getD (0, 0)).2) (b := ((winF b (finL b ys 8))[i]?.getD (0, 0)).2) rfl) (oc (show (0 : Int) ≤ ((p : Int) : Int) ∧ ((p : Int) : Int) < (LN : Int) by omega) on)))))))))))))))))))))))))))) (by kernel_rfl) fun w22 hA => ?_
            have hvs := V.stp
            refine runS hA 19 ([.x (.int .i64 (dvF (tilF b) (finL b ys 8) ((winF b (finL b ys 8))[i]?.getD (0, 0))))] ++ List.replicate 6 (.g false) ++ [.x (.int .i64 b.stp), .g false, .z]) (xc (a := ⟨bl1, ol + p * 3 + 2, none⟩) f2 (xc (a := ⟨w.heap.size, 7, none⟩) hcb7 xn)) (oc (dec_f (show ¬ (((dvF (tilF b) (finL b ys 8) ((winF b (finL b ys 8))[i]?.getD (0, 0))) : Int) < (0 : Int)) by omega)) (oc (rfl : Value.bool false = .bool false) (oc (rfl : Value.bool false = .bool false) (oc (dec_f (show ¬ (((dvF (tilF b) (finL b ys 8) ((winF b (finL b ys 8))[i]?.getD (0, 0))) : Int) > ((shF (tilF b) (finL b ys 8)) : Int)) by omega)) (oc (rfl : Value.bool false = .bool false) (oc (rfl : Value.bool false = .bool false) (oc (rfl : Value.bool false = .bool false) (oc (show b.stp ≠ (0 : Int) by omega) on)))))))) (by kernel_rfl) fun w23 hA => ?_
            refine revals hA (rc 143 (show .int .i64 ((dvF (tilF b) (finL b ys 8) ((winF b (finL b ys 8))[i]?.getD (0, 0))).tmod b.stp) = .int .i64 0 by rw [hda.2.1]) rn) (by kernel_rfl) fun hA => ?_
            refine runS hA 6 (List.replicate 4 (.g false)) xn (oc (rfl : Value.bool false = .bool false) (oc (rfl : Value.bool false = .bool false) (oc (rfl : Value.bool false = .bool false) (oc (rfl : Value.bool false = .bool false) on)))) (by kernel_rfl) fun w24 hA => ?_
            refine revals hA (rc 149 (show .int .i64 (IntKind.i64.wrap ((dvF (tilF b) (finL b ys 8) ((winF b (finL b ys 8))[i]?.getD (0, 0))) * (uL (tilF b) b.bets ((winF b (finL b ys 8))[i]?.getD (0, 0))))) = .int .i64 ((dvF (tilF b) (finL b ys 8) ((winF b (finL b ys 8))[i]?.getD (0, 0))) * (uL (tilF b) b.bets ((winF b (finL b ys 8))[i]?.getD (0, 0)))) by rw [IntKind.wrap_i64]; congr 1; omega) rn) (by kernel_rfl) fun hA => ?_
            refine runS hA 10 (List.replicate 5 (.g false) ++ [.x (.int .i64 b.stp), .g false, .g false, .g false]) (xc (a := ⟨w.heap.size, 7, none⟩) hcb7 xn) (oc (rfl : Value.bool false = .bool false) (oc (rfl : Value.bool false = .bool false) (oc (dec_f (show ¬ ((((dvF (tilF b) (finL b ys 8) ((winF b (finL b ys 8))[i]?.getD (0, 0))) * (uL (tilF b) b.bets ((winF b (finL b ys 8))[i]?.getD (0, 0)))) : Int) > ((shF (tilF b) (finL b ys 8)) : Int)) by omega)) (oc (rfl : Value.bool false = .bool false) (oc (rfl : Value.bool false = .bool false) (oc (rfl : Value.bool false = .bool false) (oc (rfl : Value.bool false = .bool false) (oc (rfl : Value.bool false = .bool false) on)))))))) (by kernel_rfl) fun w25 hA => ?_
            have hwd : IntKind.i64.wrap ((dvF (tilF b) (finL b ys 8) ((winF b (finL b ys 8))[i]?.getD (0, 0))) + b.stp) = (dvF (tilF b) (finL b ys 8) ((winF b (finL b ys 8))[i]?.getD (0, 0))) + b.stp := by have := V.stp; rw [IntKind.wrap_i64]; omega
            refine revals hA (rc 159 (show .int .i64 (IntKind.i64.wrap ((IntKind.i64.wrap ((dvF (tilF b) (finL b ys 8) ((winF b (finL b ys 8))[i]?.getD (0, 0))) + b.stp)) * (uL (tilF b) b.bets ((winF b (finL b ys 8))[i]?.getD (0, 0))))) = .int .i64 (((dvF (tilF b) (finL b ys 8) ((winF b (finL b ys 8))[i]?.getD (0, 0))) + b.stp) * (uL (tilF b) b.bets ((winF b (finL b ys 8))[i]?.getD (0, 0)))) by rw [hwd, IntKind.wrap_i64]; congr 1; omega) rn) (by kernel_rfl) fun hA => ?_
            refine runS hA 15 [.g false, .g false, .b false] xn (oc (rfl : Value.bool false = .bool false) (oc (rfl : Value.bool false = .bool false) (oc (dec_f (show ¬ (((((dvF (tilF b) (finL b ys 8) ((winF b (finL b ys 8))[i]?.getD (0, 0))) + b.stp) * (uL (tilF b) b.bets ((winF b (finL b ys 8))[i]?.getD (0, 0)))) : Int) ≤ ((shF (tilF b) (finL b ys 8)) : Int)) by omega)) on))) (by kernel_rfl) fun w26 hA => ?_
            have hwm : IntKind.i64.wrap ((dvF (tilF b) (finL b ys 8) ((winF b (finL b ys 8))[i]?.getD (0, 0))) * (uL (tilF b) b.bets ((winF b (finL b ys 8))[i]?.getD (0, 0)))) = (dvF (tilF b) (finL b ys 8) ((winF b (finL b ys 8))[i]?.getD (0, 0))) * (uL (tilF b) b.bets ((winF b (finL b ys 8))[i]?.getD (0, 0))) := by rw [IntKind.wrap_i64]; omega
            refine revals hA (rc 167 (show .int .i64 (IntKind.i64.wrap ((pdN b (finL b ys 8) i) + (IntKind.i64.wrap ((dvF (tilF b) (finL b ys 8) ((winF b (finL b ys 8))[i]?.getD (0, 0))) * (uL (tilF b) b.bets ((winF b (finL b ys 8))[i]?.getD (0, 0))))))) = .int .i64 (pdN b (finL b ys 8) (i + 1)) by rw [hwm, hpd, IntKind.wrap_i64]; congr 1; omega) rn) (by kernel_rfl) fun hA => ?_
            refine runS hA 15 [] xn on (by kernel_rfl) fun w27 hA => ?_
            refine revals hA (rc 13 (wr64 (x := (p : Int) + 1) (y := ((bkN' b (finL b ys 8) (i + 1)).length : Int)) (by omega) (by omega)) (rc 14 (show .int .i64 (pdN b (finL b ys 8) (i + 1)) = .int .i64 (pdN b (finL b ys 8) (i + 1)) by rfl) (rc 15 (wr64 (x := (i : Int) + 1) (y := ((i + 1 : Nat) : Int)) (by omega) (by omega)) rn))) (by kernel_rfl) fun hA => ?_
            exact again hJ (WN - (i + 1)) (i + 1) [] hA (by omega) (by kernel_rfl) (⟨⟨by omega, rfl⟩, by rw [hpd]; omega, by rw [hpd]; omega⟩)
end Go.Proofs.YtbahiemjaomdcaaGreat

/- PoolShared answers true whatever the book and the numbers of the finish; the arguments read behind the call as they did. No condition. -/
namespace Go.Proofs.YtbahiemjaomdcaaGreat.poolShared
open Go.ChangeShapes Go.WideShapes Go.ChangeAt Go.RowKit

theorem own : ownKnob Tryz.prog.godebug = none := by kernel_rfl
theorem laidOut : laidOutB Tryz.prog = true := by kernel_rfl
theorem cellsInt : Tryz.prog.cellsOf 3 = 1 := by kernel_rfl
/-- A slice of numbers among the arguments. -/
theorem ints_arg {H : Type} {enc : TypeId × Value → H} {W : World} {fuel : Nat} {v : Value} {x : DataW H × List MemPlace} (h : DataW.trod enc Tryz.prog W 0 (fun _ => true) true fuel 23 [v] = some x) :
    ∃ A n c xs, v = .slice A n c ∧ n ≤ c ∧ IntsAt W W.heap.size A n xs := by
  rcases open_ints Tryz.underlying23 Tryz.underlying3 cellsInt h with ⟨hcs, -⟩ | ⟨a, n, c, zs, hcs, -, hl, hm, hz, -, hcell, -⟩
  · obtain rfl : v = .slice none 0 0 := by simpa using hcs
    exact ⟨none, 0, 0, [], rfl, Nat.le_refl _, IntsAt.nil⟩
  · obtain rfl : v = .slice (some a) n c := by simpa using hcs
    have hz : zs.length = c := by simpa using hz
    refine ⟨some a, n, c, zs.take n, rfl, hl, by rw [List.length_take]; omega, by simp only [maxLen] at hm; omega, fun h0 => ?_⟩
    obtain ⟨b, off, rfl, hc⟩ := Go.ints_at hcell (by omega)
    refine ⟨b, off, rfl, ?_, fun j hj => ?_⟩
    · rcases Nat.lt_or_ge b W.heap.size with hb | hb
      · exact hb
      · have := hc 0 (by omega)
        simp [World.cell?, Array.getElem?_eq_none hb] at this
    · rw [hc j (by omega), List.getElem?_take, if_pos hj, List.getD_eq_getElem?_getD]
theorem cellsI64 : Tryz.prog.cellsOf 2 = 1 := by kernel_rfl
theorem cellsBool : Tryz.prog.cellsOf 4 = 1 := by kernel_rfl
theorem cellsBet : Tryz.prog.cellsOf 93 = 3 := by kernel_rfl
theorem cellsBets : Tryz.prog.cellsOf 22 = 1 := by kernel_rfl
theorem cellsInts : Tryz.prog.cellsOf 23 = 1 := by kernel_rfl
theorem cellsBook : Tryz.prog.cellsOf 25 = 8 := by kernel_rfl
theorem bet_gen {H : Type} {enc : TypeId × Value → H} {P : Program} {W : World} {fuel : Nat} {T I J : TypeId} {f0 f1 f2 : Field} (ht : P.underlying T = some (.struct #[f0, f1, f2])) (hi : P.underlying I = some (.int .i64)) (hj : P.underlying J = some (.int .i64)) (cI : P.cellsOf I = 1) (cJ : P.cellsOf J = 1) (cT : P.cellsOf T = 3)
    (o0 : f0.offset = 0 ∧ f0.type = I) (o1 : f1.offset = 1 ∧ f1.type = I) (o2 : f2.offset = 2 ∧ f2.type = J) {cs : List Value} {x : DataW H × List MemPlace} (h : DataW.trod enc P W 0 (fun _ => true) true fuel T cs = some x) :
    ∃ y : Bet, cs = [.int .i64 y.first, .int .i64 y.second, .int .i64 y.units] := by
  obtain ⟨xs, m, -, -, hl, hn, hf⟩ := Go.DataW.trod_struct ht h
  rw [cT] at hl
  obtain ⟨v0, v1, v2, rfl⟩ : ∃ v0 v1 v2, cs = [v0, v1, v2] := by
    match cs, hl with
    | [a, b, c], _ => exact ⟨a, b, c, rfl⟩
  have g0 := hf 0 f0 rfl
  have g1 := hf 1 f1 rfl
  have g2 := hf 2 f2 rfl
  simp only [List.size_toArray, List.length_cons, List.length_nil] at hn
  rw [List.getElem?_eq_getElem (by omega)] at g0 g1 g2
  rw [o0.1, o0.2, cI] at g0
  rw [o1.1, o1.2, cI] at g1
  rw [o2.1, o2.2, cJ] at g2
  obtain ⟨a, e0, -, -⟩ := Go.DataW.trod_int hi g0
  obtain ⟨b, e1, -, -⟩ := Go.DataW.trod_int hi g1
  obtain ⟨c, e2, -, -⟩ := Go.DataW.trod_int hj g2
  simp at e0 e1 e2
  exact ⟨⟨a, b, c⟩, by rw [e0, e1, e2]⟩
theorem bet_arg {H : Type} {enc : TypeId × Value → H} {W : World} {fuel : Nat} {cs : List Value} {x : DataW H × List MemPlace} (h : DataW.trod enc Tryz.prog W 0 (fun _ => true) true fuel 93 cs = some x) :
    ∃ y : Bet, cs = [.int .i64 y.first, .int .i64 y.second, .int .i64 y.units] := bet_gen Tryz.underlying93 Tryz.underlying3 Tryz.underlying2 cellsInt cellsI64 cellsBet ⟨rfl, rfl⟩ ⟨rfl, rfl⟩ ⟨rfl, rfl⟩ h
/-- A slice of bets among the arguments. -/
theorem bets_arg {H : Type} {enc : TypeId × Value → H} {W : World} {fuel : Nat} {v : Value} {x : DataW H × List MemPlace} (h : DataW.trod enc Tryz.prog W 0 (fun _ => true) true fuel 22 [v] = some x) :
    ∃ A n c bs, v = .slice A n c ∧ n ≤ c ∧ BetsAt W W.heap.size A n bs := by
  rcases Go.Deep.open_slice Tryz.underlying22 h with ⟨hcs, -⟩ | ⟨a, len, cap, m, n', D, Pl, hcs, -, hl, hm, hmm, -, hel⟩
  · obtain rfl : v = .slice none 0 0 := by simpa using hcs
    exact ⟨none, 0, 0, [], rfl, Nat.le_refl _, rfl, by omega, fun h => absurd h (by omega)⟩
  · obtain rfl : v = .slice (some a) len cap := by simpa using hcs
    have hmc : m = cap := by simpa using hmm
    have each : ∀ i, i < len → ∃ y : Bet, W.cell? (a.add (i * 3)) = some (.int .i64 y.first) ∧ W.cell? (a.add (i * 3 + 1)) = some (.int .i64 y.second) ∧ W.cell? (a.add (i * 3 + 2)) = some (.int .i64 y.units) := by
      intro i hi
      obtain ⟨cs', h1, h2⟩ := hel i (by omega)
      obtain ⟨y, rfl⟩ := bet_arg h2
      rw [cellsBet] at h1
      obtain ⟨_, hlen, hcell⟩ := World.cells?_some h1
      have g0 := hcell 0 (by omega)
      have g1 := hcell 1 (by omega)
      have g2 := hcell 2 (by omega)
      rw [Go.Deep.add_add] at g0 g1 g2
      exact ⟨y, by simpa using g0, by simpa using g1, by simpa using g2⟩
    obtain ⟨fx, hfx⟩ := Go.Deep.choose_lt each
    refine ⟨some a, len, cap, (List.range len).map fx, rfl, hl, by simp, by simp only [maxLen] at hm; omega, fun h0 => ?_⟩
    obtain ⟨b, off, spot⟩ := a
    have hc0 := (hfx 0 h0).1
    have hspot : spot = none := by simpa [Addr.add] using World.cell?_spot hc0
    subst hspot
    refine ⟨b, off, rfl, ?_, fun j hj => ?_⟩
    · rcases Nat.lt_or_ge b W.heap.size with hb | hb
      · exact hb
      · simp [World.cell?, Addr.add, Array.getElem?_eq_none hb] at hc0
    · have e := hfx j hj
      rw [Go.WideShapes.add_plain, Go.WideShapes.add_plain, Go.WideShapes.add_plain] at e
      rw [List.getElem?_map, List.getElem?_range hj, Option.map_some, Option.getD_some]
      exact e
theorem book_gen {H : Type} {enc : TypeId × Value → H} {P : Program} {W : World} {fuel : Nat} {T I J S R C : TypeId} {f0 f1 f2 f3 f4 f5 f6 f7 : Field} (ht : P.underlying T = some (.struct #[f0, f1, f2, f3, f4, f5, f6, f7])) (hi : P.underlying I = some (.int .i64)) (hj : P.underlying J = some (.int .i64)) (hb : P.underlying C = some .bool)
    (cI : P.cellsOf I = 1) (cJ : P.cellsOf J = 1) (cS : P.cellsOf S = 1) (cR : P.cellsOf R = 1) (cC : P.cellsOf C = 1) (cT : P.cellsOf T = 8)
    (o0 : f0.offset = 0 ∧ f0.type = I) (o1 : f1.offset = 1 ∧ f1.type = I) (o2 : f2.offset = 2 ∧ f2.type = S) (o3 : f3.offset = 3 ∧ f3.type = R) (o4 : f4.offset = 4 ∧ f4.type = C) (o5 : f5.offset = 5 ∧ f5.type = J) (o6 : f6.offset = 6 ∧ f6.type = J) (o7 : f7.offset = 7 ∧ f7.type = J)
    {cs : Array Value} {x : DataW H × List MemPlace} (h : DataW.trod enc P W 0 (fun _ => true) true fuel T cs.toList = some x) :
    ∃ (a0 a1 : Int) (v2 v3 : Value) (a4 : Bool) (a5 a6 a7 : Int) (q : Nat) (x2 x3 : DataW H × List MemPlace), cs = #[.int .i64 a0, .int .i64 a1, v2, v3, .bool a4, .int .i64 a5, .int .i64 a6, .int .i64 a7] ∧
      DataW.trod enc P W 0 (fun _ => true) true q S [v2] = some x2 ∧ DataW.trod enc P W 0 (fun _ => true) true q R [v3] = some x3 := by
  obtain ⟨xs, q, -, -, hl, hn, hf⟩ := Go.DataW.trod_struct ht h
  rw [cT] at hl
  obtain ⟨v0, v1, v2, v3, v4, v5, v6, v7, hc⟩ : ∃ v0 v1 v2 v3 v4 v5 v6 v7, cs.toList = [v0, v1, v2, v3, v4, v5, v6, v7] := by
    generalize cs.toList = l at hl
    match l, hl with
    | [a, b, c, d, e, f, g, h], _ => exact ⟨a, b, c, d, e, f, g, h, rfl⟩
  rw [hc] at hf
  simp only [List.size_toArray, List.length_cons, List.length_nil] at hn
  have g0 := hf 0 f0 rfl
  have g1 := hf 1 f1 rfl
  have g2 := hf 2 f2 rfl
  have g3 := hf 3 f3 rfl
  have g4 := hf 4 f4 rfl
  have g5 := hf 5 f5 rfl
  have g6 := hf 6 f6 rfl
  have g7 := hf 7 f7 rfl
  rw [List.getElem?_eq_getElem (by omega)] at g0 g1 g2 g3 g4 g5 g6 g7
  rw [o0.1, o0.2, cI] at g0
  rw [o1.1, o1.2, cI] at g1
  rw [o2.1, o2.2, cS] at g2
  rw [o3.1, o3.2, cR] at g3
  rw [o4.1, o4.2, cC] at g4
  rw [o5.1, o5.2, cJ] at g5
  rw [o6.1, o6.2, cJ] at g6
  rw [o7.1, o7.2, cJ] at g7
  obtain ⟨a0, e0, -, -⟩ := Go.DataW.trod_int hi g0
  obtain ⟨a1, e1, -, -⟩ := Go.DataW.trod_int hi g1
  obtain ⟨a4, e4, -⟩ := Go.DataW.trod_bool hb g4
  obtain ⟨a5, e5, -, -⟩ := Go.DataW.trod_int hj g5
  obtain ⟨a6, e6, -, -⟩ := Go.DataW.trod_int hj g6
  obtain ⟨a7, e7, -, -⟩ := Go.DataW.trod_int hj g7
  simp at e0 e1 e4 e5 e6 e7
  refine ⟨a0, a1, v2, v3, a4, a5, a6, a7, q, _, _, ?_, by simpa using g2, by simpa using g3⟩
  apply Array.toList_inj.1
  rw [hc, e0, e1, e4, e5, e6, e7]
/-- A book among the arguments. -/
theorem book_arg {H : Type} {enc : TypeId × Value → H} {W : World} {fuel : Nat} {cs : Array Value} {x : DataW H × List MemPlace} (h : DataW.trod enc Tryz.prog W 0 (fun _ => true) true fuel 25 cs.toList = some x) :
    ∃ b A n c A2 m c2, cs = bkC b A n c A2 m c2 ∧ BkAt W W.heap.size b A n c A2 m c2 := by
  obtain ⟨a0, a1, v2, v3, a4, a5, a6, a7, q, x2, x3, rfl, f2, f3⟩ := book_gen Tryz.underlying25 Tryz.underlying3 Tryz.underlying2 Tryz.underlying4 cellsInt cellsI64 cellsBets cellsInts cellsBool cellsBook ⟨rfl, rfl⟩ ⟨rfl, rfl⟩ ⟨rfl, rfl⟩ ⟨rfl, rfl⟩ ⟨rfl, rfl⟩ ⟨rfl, rfl⟩ ⟨rfl, rfl⟩ ⟨rfl, rfl⟩ h
  obtain ⟨A, n, c, bs, rfl, l2, i2⟩ := bets_arg f2
  obtain ⟨A2, m, c2, ss, rfl, l3, i3⟩ := ints_arg f3
  exact ⟨⟨a0, a1, bs, ss, a4, a5, a6, a7⟩, A, n, c, A2, m, c2, rfl, i2, i3, l2, l3⟩
theorem cellsByte : Tryz.prog.cellsOf 5 = 1 := by kernel_rfl
/-- A slice of bytes among the arguments. -/
theorem bytes_arg {H : Type} {enc : TypeId × Value → H} {W : World} {fuel : Nat} {v : Value} {x : DataW H × List MemPlace} (h : DataW.trod enc Tryz.prog W 0 (fun _ => true) true fuel 47 [v] = some x) :
    ∃ A n c xs, v = .slice A n c ∧ n ≤ c ∧ U8At W W.heap.size A n xs := by
  rcases open_ints Tryz.underlying47 Tryz.underlying5 cellsByte h with ⟨hcs, -⟩ | ⟨a, n, c, zs, hcs, -, hl, hm, hz, -, hcell, hwf⟩
  · obtain rfl : v = .slice none 0 0 := by simpa using hcs
    exact ⟨none, 0, 0, [], rfl, Nat.le_refl _, rfl, by omega, fun h => absurd h (by omega)⟩
  · obtain rfl : v = .slice (some a) n c := by simpa using hcs
    have hz : zs.length = c := by simpa using hz
    refine ⟨some a, n, c, zs.take n, rfl, hl, by rw [List.length_take]; omega, by simp only [maxLen] at hm; omega, fun h0 => ?_⟩
    obtain ⟨b, off, rfl, hc⟩ := Go.ints_at hcell (by omega)
    refine ⟨b, off, rfl, ?_, fun j hj => ⟨?_, ?_⟩⟩
    · rcases Nat.lt_or_ge b W.heap.size with hb | hb
      · exact hb
      · have := hc 0 (by omega)
        simp [World.cell?, Array.getElem?_eq_none hb] at this
    · rw [hc j (by omega), List.getElem?_take, if_pos hj, List.getD_eq_getElem?_getD]
    · rw [List.getElem?_take, if_pos hj]
      exact range_u8 hwf j

/-! ### THE ROW's STEP -/
set_option maxRecDepth 100000 in
theorem lifted (os : Os) (started : os.Started) (H : Type) (enc : TypeId × Value → H) :
    ReturnsInHanded {} Tryz.checked os 5 .any (Rows.poolSharedSpec.pre6 enc Tryz.prog Tryz.f5 Rows.poolSharedRow.domain false) (Rows.poolSharedSpec.post enc Tryz.prog Tryz.f5 false true false false) := by
  refine returnsInHanded_of_change (C := Tryz.checked) own started (by kernel_rfl) Tryz.func5
    (ChangeSpec.witness6 (enc := enc) (C := Tryz.checked) false ⟨#[], #[.agg #[.int .i64 0, .int .i64 0, .slice none 0 0, .slice none 0 0, .bool false, .int .i64 0, .int .i64 0, .int .i64 0], .slice none 0 0], []⟩ 8 (by kernel_rfl) (by kernel_rfl) (by kernel_rfl) (by kernel_rfl)) ?_
  intro W base args ds gs before hval0 hW hcnd _
  have hval : ∀ (j : Nat) t v, Tryz.f5.params[j]? = some t → args[j]? = some v → Value.okWide Tryz.prog W .any base t v := hval0
  have hW' := hW
  obtain ⟨p, q, hA0, hV, rfl, hfz, hnd⟩ := hW
  have hA : DataW.TrodAll enc Tryz.prog W 0 (fun _ => true) true Tryz.f5.params.toList args.toList ds p := hA0
  rw [Tryz.params5] at hA hval
  obtain ⟨v0, v1, d0, d1, p0, p1, rfl, rfl, rfl, h0, h1⟩ := trodAll_two hA
  obtain ⟨rfl, rfl⟩ := trodVars_none hV
  obtain ⟨cs0, rfl, -⟩ := okWide_struct Tryz.underlying25 (hval 0 25 v0 rfl rfl)
  obtain ⟨A1, n1, c1, rfl⟩ := okWide_slice Tryz.underlying47 (hval 1 47 v1 rfl rfl)
  have h0k := h0
  have h1k := h1
  obtain ⟨f0, hf0⟩ := h0
  obtain ⟨f1, hf1⟩ := h1
  obtain ⟨b0, A0, n0, c0, B0, m0, d0, e0, i0⟩ := book_arg (cs := cs0) hf0
  subst e0
  obtain ⟨A1', n1', c1', x1, e1, l1, i1⟩ := bytes_arg hf1
  cases e1
  clear hA0 hval0
  simp only [List.append_nil] at hW'
  have hlt0 : ∀ x ∈ p0, x.block < W.heap.size := fun x hx => by simpa using hW'.lt x (by simp [hx])
  have hlt1 : ∀ x ∈ p1, x.block < W.heap.size := fun x hx => by simpa using hW'.lt x (by simp [hx])
  refine (PoolShared_any W W.heap.size b0 A0 n0 c0 B0 m0 d0 A1 n1 c1 x1 i0 i1 (Nat.le_refl _)).mono fun e W' ⟨he, hg⟩ => ?_
  subst he
  exact ⟨_, rfl, _, _, _, [], p0 ++ p1, [], hW', trodAll_cons_mk (shut_bool Tryz.underlying4 _) trodAll_mk0,
    trodAll_mk2 (Below.trod laidOut (by kernel_rfl) (of_decide_eq_true (by kernel_rfl)) h0k hg hlt0) (Below.trod laidOut (by kernel_rfl) (of_decide_eq_true (by kernel_rfl)) h1k hg hlt1),
    rfl, hg.frame _, fun h => by cases h⟩

theorem over : Rows.poolSharedRow.holds Tryz.pinned (OpenSpec.ofChange Rows.poolSharedSpec) :=
  OpenClaim.holds_of_wide 5 Tryz.f5 rfl rfl rfl rfl rfl rfl rfl ⟨rfl, rfl, rfl, rfl, rfl⟩ rfl rfl rfl rfl rfl (by kernel_rfl) Tryz.func5 (by kernel_rfl)
    (of_decide_eq_true (by kernel_rfl)) (by unfold Func.isWrapper; first | (rw [if_pos (by decide +kernel)]; kernel_rfl) | (rw [if_neg (by decide +kernel)]; exact ⟨rfl, rfl⟩))
    (fun os started H enc _ => lifted os started H enc)

/-- The statement. -/
theorem proved : Rows.PoolSharedSaid :=
  over
#print axioms proved
end Go.Proofs.YtbahiemjaomdcaaGreat.poolShared
