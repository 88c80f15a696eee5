/- PoolJoined answers true whatever the book, the numbers of the finish, the two bets, and the bet from which the others come; the arguments read behind the call as they did. No condition. -/
import Derived.Test.YtbahiemjaomdcaaF13
import Derived.Test.YtbahiemjaomdcaaRows
import Derived.WalkKit
import Derived.ProofKit
import Derived.OpenShut
import Derived.Carry
import Derived.Deep.Slices
import Derived.ChangeSame

/- Symbolic runs: appends anywhere in a region that draws. -/
namespace Go.Proofs.Ytbahiemjaomdcaa
open Go.RowKit Go.Shelf

theorem appGD {c : Ctx} {S : Sta} {w : World} {ob rest : List KB} {t e ty : TypeId} {z v : Value} {size bytes n m cp : Nat} {a : Addr} {vs : List Value} (news : List Value) (hA : AtS c S w (ob ++ rest)) (hr : RowV e size v n vs ob)
    (h : (holdL S S.env.known, appOf c.P c.N S, semOf c.P c.N S [], infoOf c.P t) = (holdR S, some (t, v, .slice (some a) m cp, ty), some (appSem t ty v (.slice (some a) m cp), []), some (e, z, size, bytes)))
    (hl : news.length = m * size) (hnews : ∀ j u, news[j]? = some u → w.cell? (a.add j) = some u) (h1 : (news.all fun u => oneCell u) = true) (hmax : n + m ≤ 1000000000) (hb : bytes ≤ 140000)
    (k : ∀ v' w' ob', RowV e size v' (n + m) (vs ++ news) ob' → (v' = .slice none 0 0 ↔ v = .slice none 0 0 ∧ m = 0) → (v'.ownBlock = v.ownBlock ∨ v'.ownBlock = some w.heap.size) → w.heap.size ≤ w'.heap.size → AtS c (knS (valS c.N S v' w'.heap.size) S.env.known) w' (ob' ++ rest) → Run c (knS (valS c.N S v' w'.heap.size) S.env.known) w') : Run c S w := by
  simp only [Prod.mk.injEq] at h
  obtain ⟨h0, -, hsem, hinf⟩ := h
  obtain ⟨i, ht, hi, hz, hsize, hby, hzs, hsz⟩ := infoOf_spec hinf
  obtain ⟨v', w', hrun, hown, hg, hnil, hat⟩ := run_append_own_at (P := c.P) w c.w0.heap.size t ty e i z size bytes ht hi hz hsize hby hzs hsz v n vs (hr.own hA.at_) a m cp news hl hnews (ones_of h1) (by simp only [maxLen]; omega) (by
      have : (n + m) * bytes ≤ 1000000000 * 140000 := Nat.mul_le_mul hmax hb
      omega) hA.below.size
  obtain ⟨ob', hr', hA'⟩ := At.row hA.at_ hr hown hg (by rcases hat with h | h; exact .inl h; exact .inr fun g e => by rw [h] at e; cases e; exact Nat.le_refl _)
  refine opwD [] on (s := appSem t ty v (.slice (some a) m cp)) (by rw [h0, hsem]) (nx := .value v') ?_ (.inl rfl) hA' (Nat.le_trans hA.lo hg.size) (k v' w' ob' hr' hnil hat hg.size)
  unfold appSem
  rw [Sem.run_bind', hrun]
  rfl
theorem appND {c : Ctx} {S : Sta} {w : World} {rows : List KB} {t e ty : TypeId} {z : Value} {size bytes n cap m cp : Nat} {A A' : Option Addr} (olds news : List Value) (hA : AtS c S w rows)
    (h : (holdL S S.env.known, appOf c.P c.N S, semOf c.P c.N S [], infoOf c.P t) = (holdR S, some (t, .slice A n cap, .slice A' m cp, ty), some (appSem t ty (.slice A n cap) (.slice A' m cp), []), some (e, z, size, bytes)))
    (hlo : olds.length = n * size) (holds : ReadsAt w A olds) (hc : A = none → cap = 0) (hnc : n ≤ cap) (hl : news.length = m * size) (hnews : ReadsAt w A' news) (h1 : (news.all fun u => oneCell u) = true) (hg : cap < n + m) (hmax : n + m ≤ 1000000000) (hb : bytes ≤ 140000)
    (k : ∀ v' w' ob', RowV e size v' (n + m) (olds ++ news) ob' → (∀ g, v'.ownBlock = some g → w.heap.size ≤ g) → Below w.heap.size w w' → AtS c (knS (valS c.N S v' w'.heap.size) S.env.known) w' (ob' ++ rows) → Run c (knS (valS c.N S v' w'.heap.size) S.env.known) w') : Run c S w := by
  simp only [Prod.mk.injEq] at h
  obtain ⟨h0, -, hsem, hinf⟩ := h
  obtain ⟨i, ht, hi, hz, hsize, hby, hzs, hsz⟩ := infoOf_spec hinf
  obtain ⟨v', w', hrun, hown, hgr⟩ := run_append_new (P := c.P) w t ty e i z size bytes ht hi hz hsize hby hzs hsz A n cap olds hlo holds hc hnc A' m cp news hl hnews (ones_of h1) hg (by simp only [maxLen]; omega) (by
      have : (n + m) * bytes ≤ 1000000000 * 140000 := Nat.mul_le_mul hmax hb
      omega)
  have hge : ∀ g, v'.ownBlock = some g → w.heap.size ≤ g := fun g e => by
    rcases hown.2 with ⟨h1, -⟩ | ⟨g', cap', cur, h1, h2, -⟩
    · rw [h1] at e; cases e
    · rw [h1] at e
      have : g' = g := by simpa [Value.ownBlock] using e
      omega
  have hown' : w'.ownsRow c.w0.heap.size e size v' (n + m) (olds ++ news) := by
    refine ⟨hown.1, ?_⟩
    rcases hown.2 with h1 | ⟨g', cap', cur, h1, h2, h3⟩
    · exact .inl h1
    · exact .inr ⟨g', cap', cur, h1, Nat.le_trans hA.below.size h2, h3⟩
  obtain ⟨ob', hr', hA'⟩ := At.row (ob := []) hA.at_ (RowV.nil e size) hown' hgr (.inr hge)
  refine opwD [] on (s := appSem t ty (.slice A n cap) (.slice A' m cp)) (by rw [h0, hsem]) (nx := .value v') ?_ (.inl rfl) hA' (Nat.le_trans hA.lo hgr.size) (k v' w' ob' hr' hge ((Below.refl _ _).grown hgr (Nat.le_refl _) (fun _ e => by cases e)))
  unfold appSem
  rw [Sem.run_bind', hrun]
  rfl
theorem appED {c : Ctx} {S : Sta} {w : World} {ob rest : List KB} {t e ty : TypeId} {z v : Value} {size bytes n m cp : Nat} {A : Option Addr} {vs : List Value} (news : List Value) (hA : AtS c S w (ob ++ rest)) (hr : RowV e size v n vs ob)
    (h : (holdL S S.env.known, appOf c.P c.N S, semOf c.P c.N S [], infoOf c.P t) = (holdR S, some (t, v, .slice A m cp, ty), some (appSem t ty v (.slice A m cp), []), some (e, z, size, bytes)))
    (hl : news.length = m * size) (hnews : ReadsAt w A news) (h1 : (news.all fun u => oneCell u) = true) (hmax : n + m ≤ 1000000000) (hb : bytes ≤ 140000)
    (k : ∀ v' w' ob', RowV e size v' (n + m) (vs ++ news) ob' → (v' = .slice none 0 0 ↔ v = .slice none 0 0 ∧ m = 0) → (v'.ownBlock = v.ownBlock ∨ v'.ownBlock = some w.heap.size) → w.heap.size ≤ w'.heap.size → AtS c (knS (valS c.N S v' w'.heap.size) S.env.known) w' (ob' ++ rest) → Run c (knS (valS c.N S v' w'.heap.size) S.env.known) w') : Run c S w := by
  by_cases hm : m = 0
  · subst hm
    have hn0 : news = [] := by simpa using hl
    subst hn0
    simp only [Prod.mk.injEq] at h
    obtain ⟨h0, -, hsem, hinf⟩ := h
    obtain ⟨i, ht, hi, hz, hsize, hby, hzs, hsz⟩ := infoOf_spec hinf
    have hrun : (appSem t ty v (.slice A 0 cp)).run c.P w = .ok (.value v) w := by
      unfold appSem
      rw [Sem.run_bind']
      rcases hr.2 with ⟨rfl, rfl, -⟩ | ⟨g, cap, cur, rfl, -, hc, -⟩
      · rw [run_append_empty w t ty e i ht hi none A 0 0 cp (Nat.le_refl _)]; rfl
      · rw [run_append_empty w t ty e i ht hi _ A n cap cp hc]; rfl
    exact opwD [] on (s := appSem t ty v (.slice A 0 cp)) (by rw [h0, hsem]) (nx := .value v) hrun (.inl rfl) hA.at_.resize hA.lo (k v w ob (by rw [List.append_nil]; exact hr) ⟨fun h => ⟨h, rfl⟩, fun h => h.1⟩ (.inl rfl) (Nat.le_refl _))
  · have hnn : news ≠ [] := fun h' => by
      obtain ⟨i, ht, hi, hz, hsize, hby, hzs, hsz⟩ := infoOf_spec (Prod.mk.inj (Prod.mk.inj (Prod.mk.inj h).2).2).2
      rw [h'] at hl
      have := Nat.mul_pos (Nat.pos_of_ne_zero hm) hsz
      simp at hl
      omega
    obtain ⟨a, rfl, hs⟩ := hnews hnn
    exact appGD news hA hr h hl hs h1 hmax hb k
/-- The same; the new row is told as a slice. -/
theorem appEDS {c : Ctx} {S : Sta} {w : World} {ob rest : List KB} {t e ty : TypeId} {z v : Value} {size bytes n m cp : Nat} {A : Option Addr} {vs : List Value} (news : List Value) (hA : AtS c S w (ob ++ rest)) (hr : RowV e size v n vs ob)
    (h : (holdL S S.env.known, appOf c.P c.N S, semOf c.P c.N S [], infoOf c.P t) = (holdR S, some (t, v, .slice A m cp, ty), some (appSem t ty v (.slice A m cp), []), some (e, z, size, bytes)))
    (hl : news.length = m * size) (hnews : ReadsAt w A news) (h1 : (news.all fun u => oneCell u) = true) (hmax : n + m ≤ 1000000000) (hb : bytes ≤ 140000)
    (h0 : 0 < n + m)
    (k : ∀ g' c' w' ob', RowV e size (.slice (some ⟨g', 0, none⟩) (n + m) c') (n + m) (vs ++ news) ob' → AtS c (knS (valS c.N S (.slice (some ⟨g', 0, none⟩) (n + m) c') w'.heap.size) S.env.known) w' (ob' ++ rest) → Run c (knS (valS c.N S (.slice (some ⟨g', 0, none⟩) (n + m) c') w'.heap.size) S.env.known) w') : Run c S w := by
  refine appED news hA hr h hl hnews h1 hmax hb fun v' w' ob' hr2 _ _ _ hA2 => ?_
  rcases hr2.2 with ⟨-, h9, -⟩ | ⟨g2, c2, u2, e2, -⟩
  · omega
  · subst e2
    exact k _ _ w' ob' hr2 hA2
theorem appES {c : Ctx} {S : Sta} {w : World} {ob rest : List KB} {t e ty : TypeId} {z v : Value} {size bytes n m cp : Nat} {A : Option Addr} {vs : List Value} (news : List Value) (hA : AtS c S w (ob ++ rest)) (hr : RowV e size v n vs ob)
    (h : (noDraw S, appOf c.P c.N S, semOf c.P c.N S [], infoOf c.P t) = (true, some (t, v, .slice A m cp, ty), some (appSem t ty v (.slice A m cp), []), some (e, z, size, bytes)))
    (hl : news.length = m * size) (hnews : ReadsAt w A news) (h1 : (news.all fun u => oneCell u) = true) (hmax : n + m ≤ 1000000000) (hb : bytes ≤ 140000)
    (h0 : 0 < n + m)
    (k : ∀ g' c' w' ob', RowV e size (.slice (some ⟨g', 0, none⟩) (n + m) c') (n + m) (vs ++ news) ob' → AtS c (knS (valS c.N S (.slice (some ⟨g', 0, none⟩) (n + m) c') w'.heap.size) S.env.known) w' (ob' ++ rest) → Run c (knS (valS c.N S (.slice (some ⟨g', 0, none⟩) (n + m) c') w'.heap.size) S.env.known) w') : Run c S w := by
  refine appE news hA hr h hl hnews h1 hmax hb fun v' w' ob' hr2 _ _ _ hA2 => ?_
  rcases hr2.2 with ⟨-, h9, -⟩ | ⟨g2, c2, u2, e2, -⟩
  · omega
  · subst e2
    exact k _ _ w' ob' hr2 hA2
theorem appNDS {c : Ctx} {S : Sta} {w : World} {rows : List KB} {t e ty : TypeId} {z : Value} {size bytes n cap m cp : Nat} {A A' : Option Addr} (olds news : List Value) (hA : AtS c S w rows)
    (h : (holdL S S.env.known, appOf c.P c.N S, semOf c.P c.N S [], infoOf c.P t) = (holdR S, some (t, .slice A n cap, .slice A' m cp, ty), some (appSem t ty (.slice A n cap) (.slice A' m cp), []), some (e, z, size, bytes)))
    (hlo : olds.length = n * size) (holds : ReadsAt w A olds) (hc : A = none → cap = 0) (hnc : n ≤ cap) (hl : news.length = m * size) (hnews : ReadsAt w A' news) (h1 : (news.all fun u => oneCell u) = true) (hg : cap < n + m) (hmax : n + m ≤ 1000000000) (hb : bytes ≤ 140000)
    (h0 : 0 < n + m)
    (k : ∀ g' c' w' ob', RowV e size (.slice (some ⟨g', 0, none⟩) (n + m) c') (n + m) (olds ++ news) ob' → AtS c (knS (valS c.N S (.slice (some ⟨g', 0, none⟩) (n + m) c') w'.heap.size) S.env.known) w' (ob' ++ rows) → Run c (knS (valS c.N S (.slice (some ⟨g', 0, none⟩) (n + m) c') w'.heap.size) S.env.known) w') : Run c S w := by
  refine appND olds news hA h hlo holds hc hnc hl hnews h1 hg hmax hb fun v' w' ob' hr2 _ _ hA2 => ?_
  rcases hr2.2 with ⟨-, h9, -⟩ | ⟨g2, c2, u2, e2, -⟩
  · omega
  · subst e2
    exact k _ _ w' ob' hr2 hA2
end Go.Proofs.Ytbahiemjaomdcaa

/- law of pool: PoolJoined. -/
namespace Go.Proofs.Ytbahiemjaomdcaa
open Go.RowKit Go.Shelf

theorem bets_reads2 {w : World} {B : Nat} {A : Option Addr} {n : Nat} {bs : List Bet} (h : BetsAt w B A n bs) (k l m : Nat) (hkl : k ≤ l) (hl : l ≤ n) (hlm : l ≤ m) : ReadsAt w (subA A k m 3) (encB ((bs.drop k).take (l - k))) := by
  have hx := h.1
  refine bets_reads (B := B) (n := l - k) ⟨by rw [List.length_take, List.length_drop]; omega, by have := h.2.1; omega, fun h0 => ?_⟩
  obtain ⟨b, off, rfl, hb, hc⟩ := h.2.2 (by omega)
  refine ⟨b, off + k * 3, subA_at (by omega), hb, fun j hj => ?_⟩
  have := hc (k + j) (by omega)
  rw [List.getElem?_take_of_lt hj, List.getElem?_drop]
  rw [show off + k * 3 + j * 3 = off + (k + j) * 3 by omega]
  exact this
theorem bets_open {v : Value} {n : Nat} {bs : List Bet} {ob : List KB} (hr : RowV 53 3 v n (encB bs) ob) (hn : n ≤ 1000) : ∃ A c, v = .slice A n c ∧ n ≤ c ∧ ∀ w : World, (∀ kb ∈ ob, w.heap[kb.id]? = some kb.obj) → BetsAt w w.heap.size A n bs := by
  rcases hr.2 with ⟨e1, e2, e3⟩ | ⟨g, cap, cur, e1, e2, e3, e4⟩
  · subst e1 e2 e3
    have hl := hr.1
    rw [encB_len] at hl
    exact ⟨none, 0, rfl, Nat.le_refl _, fun w _ => ⟨by omega, by omega, fun h0 => absurd h0 (Nat.lt_irrefl 0)⟩⟩
  · subst e1 e2
    exact ⟨_, cap, rfl, e3, fun w hk => (row_bets hr (hk _ List.mem_cons_self) hn).1⟩
theorem bets_at {A : Option Addr} {n c : Nat} {bs : List Bet} {ob : List KB} (hr : RowV 53 3 (.slice A n c) n (encB bs) ob) (hn : n ≤ 1000) : ∀ w : World, (∀ kb ∈ ob, w.heap[kb.id]? = some kb.obj) → BetsAt w w.heap.size A n bs := by
  obtain ⟨A', c', e, -, h⟩ := bets_open hr hn
  cases e
  exact h
theorem bets_cap {A : Option Addr} {n c : Nat} {bs : List Bet} {ob : List KB} (hr : RowV 53 3 (.slice A n c) n (encB bs) ob) : n ≤ c := by
  rcases hr.2 with ⟨e1, -, -⟩ | ⟨g, cap, cur, e1, -, e3, -⟩
  · cases e1; exact Nat.le_refl _
  · cases e1; exact e3
theorem encB_app (xs ys : List Bet) : encB (xs ++ ys) = encB xs ++ encB ys := by unfold encB; exact List.flatMap_append
set_option linter.unusedVariables false in
set_option maxHeartbeats 1000000 in
set_option maxRecDepth 20000 in
theorem PoolJoined_none (w : World) (B : Nat) (b : Bk) (A : Option Addr) (n c : Nat) (A2 : Option Addr) (m c2 : Nat) (A3 : Option Addr) (ny cy : Nat) (ys : List Int) (o1 o2 o3 : Int) (h : BkAt w B b A n c A2 m c2) (hy : U8At w B A3 ny ys) (ho1 : 0 ≤ o1 ∧ o1 ≤ 255) (ho2 : 0 ≤ o2 ∧ o2 ≤ 255) (ho3 : 0 ≤ o3 ∧ o3 ≤ 255) (hB : B ≤ w.heap.size) (hn0 : n = 0) : Calls Try.prog 7 #[bkV b A n c A2 m c2, .slice A3 ny cy, .int .u8 o1, .int .u8 o2, .int .u8 o3] w fun e w' => e = .returned (.bool true) ∧ Below w.heap.size w w' := by
  refine enter 223 Try.func7 (by kernel_rfl) fun hA => ?_
  refine runS hA 10 (List.replicate 8 (.k 0)) xn on (by kernel_rfl) fun w1 hA => ?_
  have hbl := h.bets.1
  have hxl := h.scr.1
  have hyl := hy.1
  refine callB hA [] on (fine_any w1 B b A n c A2 m c2 (h.below hA.below hB) (Nat.le_trans hB hA.size)) (by kernel_rfl) fun w2 hb2 hA => ?_
  by_cases hfi : ¬ (110 < n ∨ 20 < m) ∧ bookF b = 0
  case neg =>
    refine revals hA (rc 29 (show .bool (decide (¬ (110 < n ∨ 20 < m) ∧ bookF b = 0)) = .bool false by rw [decide_eq_false hfi]) rn) (by kernel_rfl) fun hA => ?_
    refine runS hA 17 (List.replicate 7 (.g true)) xn (oc (rfl : Value.bool true = .bool true) (oc (rfl : Value.bool true = .bool true) (oc (rfl : Value.bool true = .bool true) (oc (rfl : Value.bool true = .bool true) (oc (rfl : Value.bool true = .bool true) (oc (rfl : Value.bool true = .bool true) (oc (rfl : Value.bool true = .bool true) on))))))) (by kernel_rfl) fun w3 hA => ?_
    refine callB hA [] on (Works_any w3) (by kernel_rfl) fun w4 hb4 hA => ?_
    refine runS hA 5 [] xn on (by kernel_rfl) fun w5 hA => ?_
    exact ret (v := .bool true) hA [] (by kernel_rfl) ⟨rfl, hA.below⟩
  case pos =>
    obtain ⟨hgr, h0⟩ := hfi
    have V := valid_of h0
    have hv1 := V.run
    have hv2 := V.len
    refine revals hA (rc 29 (show .bool (decide (¬ (110 < n ∨ 20 < m) ∧ bookF b = 0)) = .bool true by rw [decide_eq_true ⟨hgr, h0⟩]) rn) (by kernel_rfl) fun hA => ?_
    refine runS hA 5 [.g false, .g false, .g false] xn (oc (rfl : Value.bool false = .bool false) (oc (rfl : Value.bool false = .bool false) (oc (rfl : Value.bool false = .bool false) on))) (by kernel_rfl) fun w3 hA => ?_
    by_cases h20 : (ny : Int) > 20
    case pos =>
      refine revals hA (rc 34 (dec_t h20) rn) (by kernel_rfl) fun hA => ?_
      refine runS hA 12 (List.replicate 4 (.g true)) xn (oc (rfl : Value.bool true = .bool true) (oc (rfl : Value.bool true = .bool true) (oc (rfl : Value.bool true = .bool true) (oc (rfl : Value.bool true = .bool true) on)))) (by kernel_rfl) fun w4 hA => ?_
      refine callB hA [] on (Works_any w4) (by kernel_rfl) fun w5 hb5 hA => ?_
      refine runS hA 5 [] xn on (by kernel_rfl) fun w6 hA => ?_
      exact ret (v := .bool true) hA [] (by kernel_rfl) ⟨rfl, hA.below⟩
    case neg =>
      refine revals hA (rc 34 (dec_f h20) rn) (by kernel_rfl) fun hA => ?_
      refine runS hA 9 [.g false, .g false, .k 0, .g false, .g false, .t 0] xn (oc (rfl : Value.bool false = .bool false) (oc (rfl : Value.bool false = .bool false) (oc (rfl : Value.bool false = .bool false) (oc (rfl : Value.bool false = .bool false) on)))) (by kernel_rfl) fun w4 hA => ?_
      refine runS hA 3 [.b true] xn (oc (eq_t (a := (n : Int)) (b := 0) (by omega)) on) (by kernel_rfl) fun w5 hA => ?_
      refine callB hA [] on (Works_any w5) (by kernel_rfl) fun w6 hb6 hA => ?_
      refine runS hA 5 [] xn on (by kernel_rfl) fun w7 hA => ?_
      exact ret (v := .bool true) hA [] (by kernel_rfl) ⟨rfl, hA.below⟩
set_option maxHeartbeats 4000000 in
set_option maxRecDepth 20000 in
theorem PoolJoined_some (w : World) (B : Nat) (b : Bk) (b1 off n c : Nat) (A2 : Option Addr) (m c2 : Nat) (A3 : Option Addr) (ny cy : Nat) (ys : List Int) (o1 o2 o3 : Int) (h : BkAt w B b (some ⟨b1, off, none⟩) n c A2 m c2) (hy : U8At w B A3 ny ys) (ho1 : 0 ≤ o1 ∧ o1 ≤ 255) (ho2 : 0 ≤ o2 ∧ o2 ≤ 255) (ho3 : 0 ≤ o3 ∧ o3 ≤ 255) (hB : B ≤ w.heap.size) (hn0 : n ≠ 0) : Calls Try.prog 7 #[bkV b (some ⟨b1, off, none⟩) n c A2 m c2, .slice A3 ny cy, .int .u8 o1, .int .u8 o2, .int .u8 o3] w fun e w' => e = .returned (.bool true) ∧ Below w.heap.size w w' := by
  obtain ⟨hb1, hcb⟩ : b1 < B ∧ ∀ j, j < n → w.cell? ⟨b1, off + j * 3, none⟩ = some (.int .i64 (b.bets[j]?.getD noBet).first) ∧ w.cell? ⟨b1, off + j * 3 + 1, none⟩ = some (.int .i64 (b.bets[j]?.getD noBet).second) ∧ w.cell? ⟨b1, off + j * 3 + 2, none⟩ = some (.int .i64 (b.bets[j]?.getD noBet).units) := by
    have hq9 := h.bets.2.2 (by omega)
    obtain ⟨b9, off9, e9, h1, h2⟩ := hq9
    cases e9
    exact ⟨h1, h2⟩
  have hlb1 : b1 < w.heap.size := Nat.lt_of_lt_of_le hb1 hB
  have hq9 : ∃ a1 : Nat, o1 = (a1 : Int) := ⟨o1.toNat, by omega⟩
  obtain ⟨a1, ha1⟩ := hq9
  subst ha1
  have hwa1 : IntKind.i64.wrap (a1 : Int) = (a1 : Int) := by rw [IntKind.wrap_i64]; omega
  have hq9 : ∃ a2 : Nat, o2 = (a2 : Int) := ⟨o2.toNat, by omega⟩
  obtain ⟨a2, ha2⟩ := hq9
  subst ha2
  have hwa2 : IntKind.i64.wrap (a2 : Int) = (a2 : Int) := by rw [IntKind.wrap_i64]; omega
  have hq9 : ∃ a3 : Nat, o3 = (a3 : Int) := ⟨o3.toNat, by omega⟩
  obtain ⟨a3, ha3⟩ := hq9
  subst ha3
  have hwa3 : IntKind.i64.wrap (a3 : Int) = (a3 : Int) := by rw [IntKind.wrap_i64]; omega
  refine enter 223 Try.func7 (by kernel_rfl) fun hA => ?_
  refine runS hA 10 (List.replicate 8 (.k 0)) xn on (by kernel_rfl) fun w1 hA => ?_
  have hbl := h.bets.1
  have hxl := h.scr.1
  have hyl := hy.1
  refine callB hA [] on (fine_any w1 B b (some ⟨b1, off, none⟩) n c A2 m c2 (h.below hA.below hB) (Nat.le_trans hB hA.size)) (by kernel_rfl) fun w2 hb2 hA => ?_
  by_cases hfi : ¬ (110 < n ∨ 20 < m) ∧ bookF b = 0
  case neg =>
    refine revals hA (rc 29 (show .bool (decide (¬ (110 < n ∨ 20 < m) ∧ bookF b = 0)) = .bool false by rw [decide_eq_false hfi]) rn) (by kernel_rfl) fun hA => ?_
    refine runS hA 17 (List.replicate 7 (.g true)) xn (oc (rfl : Value.bool true = .bool true) (oc (rfl : Value.bool true = .bool true) (oc (rfl : Value.bool true = .bool true) (oc (rfl : Value.bool true = .bool true) (oc (rfl : Value.bool true = .bool true) (oc (rfl : Value.bool true = .bool true) (oc (rfl : Value.bool true = .bool true) on))))))) (by kernel_rfl) fun w3 hA => ?_
    refine callB hA [] on (Works_any w3) (by kernel_rfl) fun w4 hb4 hA => ?_
    refine runS hA 5 [] xn on (by kernel_rfl) fun w5 hA => ?_
    exact ret (v := .bool true) hA [] (by kernel_rfl) ⟨rfl, hA.below⟩
  case pos =>
    obtain ⟨hgr, h0⟩ := hfi
    have V := valid_of h0
    have hv1 := V.run
    have hv2 := V.len
    refine revals hA (rc 29 (show .bool (decide (¬ (110 < n ∨ 20 < m) ∧ bookF b = 0)) = .bool true by rw [decide_eq_true ⟨hgr, h0⟩]) rn) (by kernel_rfl) fun hA => ?_
    refine runS hA 5 [.g false, .g false, .g false] xn (oc (rfl : Value.bool false = .bool false) (oc (rfl : Value.bool false = .bool false) (oc (rfl : Value.bool false = .bool false) on))) (by kernel_rfl) fun w3 hA => ?_
    by_cases h20 : (ny : Int) > 20
    case pos =>
      refine revals hA (rc 34 (dec_t h20) rn) (by kernel_rfl) fun hA => ?_
      refine runS hA 12 (List.replicate 4 (.g true)) xn (oc (rfl : Value.bool true = .bool true) (oc (rfl : Value.bool true = .bool true) (oc (rfl : Value.bool true = .bool true) (oc (rfl : Value.bool true = .bool true) on)))) (by kernel_rfl) fun w4 hA => ?_
      refine callB hA [] on (Works_any w4) (by kernel_rfl) fun w5 hb5 hA => ?_
      refine runS hA 5 [] xn on (by kernel_rfl) fun w6 hA => ?_
      exact ret (v := .bool true) hA [] (by kernel_rfl) ⟨rfl, hA.below⟩
    case neg =>
      refine revals hA (rc 34 (dec_f h20) rn) (by kernel_rfl) fun hA => ?_
      refine runS hA 9 [.g false, .g false, .k 0, .g false, .g false, .t 0] xn (oc (rfl : Value.bool false = .bool false) (oc (rfl : Value.bool false = .bool false) (oc (rfl : Value.bool false = .bool false) (oc (rfl : Value.bool false = .bool false) on)))) (by kernel_rfl) fun w4 hA => ?_
      refine runS hA 7 ([.b false] ++ List.replicate 8 (.k 0)) xn (oc (eq_f (a := (n : Int)) (b := 0) (by omega)) on) (by kernel_rfl) fun w5 hA => ?_
      have hApf := hA.atK [⟨w.heap.size, .cells #[.int .i64 b.kind, .int .i64 b.runners, .slice (some ⟨b1, off, none⟩) n c, .slice A2 m c2, .bool b.fav, .int .i64 b.car, .int .i64 b.dut, .int .i64 b.stp] 25 (0, 0)⟩] (by kernel_rfl)
      refine call hA [] on (Finish_any w5 B b (some ⟨b1, off, none⟩) n c A2 m c2 A3 ny cy ys (h.below hA.below hB) (hy.below hA.below hB) (Nat.le_trans hB hA.size) V) (by kernel_rfl) (by rintro e v ⟨Af, cf, ob, rfl, hbf, hof, hfk⟩; exact hbf) ?_
      rintro e w6 ⟨Af, cf, ob, rfl, hbf, hof, hfk⟩
      refine ⟨_, rfl, fun hA => ?_⟩
      have hA2f := At.ownL hApf hbf hof
      refine reknow ⟨[⟨w.heap.size, .cells #[.int .i64 b.kind, .int .i64 b.runners, .slice (some ⟨b1, off, none⟩) n c, .slice A2 m c2, .bool b.fav, .int .i64 b.car, .int .i64 b.dut, .int .i64 b.stp] 25 (0, 0)⟩], w6.heap.size, [], [], [], [], []⟩ hA2f (Nat.zero_le _) fun hA => ?_
      have hfin := finL_isFin V ys
      have hat0 := finL_at h0 ys
      have hq9 : ∃ k, k = a3 % n := ⟨_, rfl⟩
      obtain ⟨k, hmk⟩ := hq9
      have hlk : k < n := by rw [hmk]; exact Nat.mod_lt _ (by omega)
      have hq9 : ∃ i, i = a1 % n := ⟨_, rfl⟩
      obtain ⟨i, hmi⟩ := hq9
      have hli : i < n := by rw [hmi]; exact Nat.mod_lt _ (by omega)
      have hq9 : ∃ j, j = a2 % n := ⟨_, rfl⟩
      obtain ⟨j, hmj⟩ := hq9
      have hlj : j < n := by rw [hmj]; exact Nat.mod_lt _ (by omega)
      refine runS hA 11 [.k 0, .z] xn (oc (show n ≠ (0 : Int) by omega) on) (by kernel_rfl) fun w7 hA => ?_
      refine revals hA (rc 51 (show .int .i64 ((IntKind.i64.wrap (a3 : Int)).tmod n) = .int .i64 (k : Int) by rw [hwa3, ← Int.ofNat_tmod, ← hmk]) rn) (by kernel_rfl) fun hA => ?_
      refine runS hA 11 (List.replicate 8 (.k 0) ++ List.replicate 8 (.k 1)) xn on (by kernel_rfl) fun w8 hA => ?_
      have hcap := h.hc
      refine draw hA [true, false] [0, 1, 2, 3, 4, 5, 6, 7, 8, 9, 10] (by kernel_rfl) (by kernel_rfl) fun hA => ?_
      refine runS hA 8 [.t 1, .t 2, .k 0, .t 3, .t 4, .i, .t 6, .t 7, .k 0, .t 8, .t 9, .i] xn (oc (show (0 : Int) ≤ ((k : Int) : Int) ∧ ((k : Int) : Int) ≤ (n : Int) ∧ (n : Int) ≤ (c : Int) ∧ (c : Int) ≤ (c : Int) by omega) (oc (show (0 : Int) ≤ (0 : Int) ∧ (0 : Int) ≤ ((k : Int) : Int) ∧ ((k : Int) : Int) ≤ (c : Int) ∧ (c : Int) ≤ (c : Int) by omega) on)) (by kernel_rfl) fun w9 hA => ?_
      refine runS hA 1 [.h 0] xn on (by kernel_rfl) fun w10 hA => ?_
      have hds : n - k ≤ n ∧ 0 < n - k := by omega
      have hdl : (b.bets.drop k).length = n - k := by rw [List.length_drop, hbl]
      have htl : (b.bets.take k).length = k := by rw [List.length_take, hbl]; omega
      have hrd : ReadsAt w10 (subA (some ⟨b1, off, none⟩) k c 3) (encB (b.bets.drop k)) := by
        have h9 := bets_reads2 (h.bets.below hA.below hB) k n c (by omega) (Nat.le_refl _) hcap
        rwa [List.take_of_length_le (by rw [hdl]; exact Nat.le_refl _)] at h9
      refine appNDS (t := 22) (e := 53) (ty := 22) (z := .agg #[.int .i64 0, .int .i64 0, .int .i64 0]) (size := 3) (bytes := 24) (n := 0) (cap := 0) (m := n - k) (cp := c - k) (A := some ⟨w6.heap.size + 1, 0, none⟩) (A' := subA (some ⟨b1, off, none⟩) k c 3) [] (encB (b.bets.drop k)) hA (by kernel_rfl) rfl (ReadsAt.nil _ _) (fun h9 => by cases h9) (Nat.le_refl _) (by rw [encB_len, hdl]) hrd (encB_ones _) (by omega) (by omega) (by omega) (by omega) fun g1 c1 w11 ob1 hr1 hA => ?_
      have hrt : ReadsAt w11 (subA (some ⟨b1, off, none⟩) 0 c 3) (encB (b.bets.take k)) := by
        have h9 := bets_reads2 (h.bets.below hA.below hB) 0 k c (Nat.zero_le _) (by omega) (by omega)
        rwa [List.drop_zero, Nat.sub_zero] at h9
      refine appEDS (t := 22) (e := 53) (ty := 22) (z := .agg #[.int .i64 0, .int .i64 0, .int .i64 0]) (size := 3) (bytes := 24) (v := .slice (some ⟨g1, 0, none⟩) (0 + (n - k)) c1) (n := 0 + (n - k)) (m := k) (cp := c) (A := subA (some ⟨b1, off, none⟩) 0 c 3) (vs := [] ++ encB (b.bets.drop k)) (ob := ob1) (encB (b.bets.take k)) hA hr1 (by kernel_rfl) (by rw [encB_len, htl]) hrt (encB_ones _) (by omega) (by omega) (by omega) fun g5 c5 w12 ob2 hr2 hA => ?_
      have hnk : 0 + (n - k) + k = n := by omega
      have hr3 : RowV 53 3 (.slice (some ⟨g5, 0, none⟩) n c5) n (encB (rotL b.bets k)) ob2 := by
        rw [hnk, List.nil_append, ← encB_app] at hr2
        exact hr2
      have hbo5 := bets_at hr3 (by omega)
      have hc5 := bets_cap hr3
      refine revals hA (rc 63 (show .slice (some ⟨g5, 0, none⟩) (0 + (n - k) + k) c5 = .slice (some ⟨g5, 0, none⟩) n c5 by rw [hnk]) rn) (by kernel_rfl) fun hA => ?_
      refine runS hA 9 ([.b false, .k 1] ++ List.replicate 8 (.k 0)) xn on (by kernel_rfl) fun w13 hA => ?_
      have h0x := rot_ok h0 k
      have hsx := rot_same b.bets k
      have hfx : isFinF (bkB b (rotL b.bets k)) (finL b ys 8) = true := by rw [fin_bets]; exact hfin
      have hatx : atF (bkB b (rotL b.bets k)) (finL b ys 8) = 0 := by unfold atF; rw [if_pos h0x, if_pos hfx]
      have hq9 : ∃ LN, LN = (dvL b (finL b ys 8)).length := ⟨_, rfl⟩
      obtain ⟨LN, hLN⟩ := hq9
      have hLb : LN ≤ 1000 := by rw [hLN]; exact dvL_len2 h0 hfin
      have hq9 : ∃ a, a = AccountF b (finL b ys 8) := ⟨_, rfl⟩
      obtain ⟨a, ha⟩ := hq9
      have hax : AccountF (bkB b (rotL b.bets k)) (finL b ys 8) = a := by rw [ha]; exact acc_same h0 h0x hsx hfin
      have hApl := hA.atK [⟨w.heap.size, .cells #[.int .i64 b.kind, .int .i64 b.runners, .slice (some ⟨b1, off, none⟩) n c, .slice A2 m c2, .bool b.fav, .int .i64 b.car, .int .i64 b.dut, .int .i64 b.stp] 25 (0, 0)⟩, ⟨w6.heap.size, .cells #[.int .i64 b.kind, .int .i64 b.runners, .slice (some ⟨g5, 0, none⟩) n c5, .slice A2 m c2, .bool b.fav, .int .i64 b.car, .int .i64 b.dut, .int .i64 b.stp] 25 (0, 0)⟩, ⟨w6.heap.size + 1, .cells #[] 53 (0, 0)⟩] (by kernel_rfl)
      refine call hA [] on (paidS_any w13 w13.heap.size b (some ⟨b1, off, none⟩) n c A2 m c2 Af (finL b ys 8).length cf (finL b ys 8) (dvL b (finL b ys 8)) LN ((h.below hA.below hB).more (Nat.le_trans hB hA.size)) (hfk _ (fun kb hk => hA.at_.rok kb (List.mem_append_right _ (List.mem_append_left _ hk)))) (Nat.le_refl _) h0 hfin (rfl) (hLN.symm)) (by kernel_rfl) (by rintro e v ⟨Al, cl, rfl, hbl, hol⟩; exact hbl) ?_
      rintro e w14 ⟨Al, cl, rfl, hbl, hol⟩
      refine ⟨_, rfl, fun hA => ?_⟩
      have hq9 := At.own hApl hbl hol
      obtain ⟨ob8l, hrl, hA2l⟩ := hq9
      refine reknow ⟨[⟨w.heap.size, .cells #[.int .i64 b.kind, .int .i64 b.runners, .slice (some ⟨b1, off, none⟩) n c, .slice A2 m c2, .bool b.fav, .int .i64 b.car, .int .i64 b.dut, .int .i64 b.stp] 25 (0, 0)⟩, ⟨w6.heap.size, .cells #[.int .i64 b.kind, .int .i64 b.runners, .slice (some ⟨g5, 0, none⟩) n c5, .slice A2 m c2, .bool b.fav, .int .i64 b.car, .int .i64 b.dut, .int .i64 b.stp] 25 (0, 0)⟩, ⟨w6.heap.size + 1, .cells #[] 53 (0, 0)⟩], w14.heap.size, [], [], [], [], []⟩ hA2l (Nat.zero_le _) fun hA => ?_
      have hptl := row_at hrl (by omega)
      refine runS hA 11 (List.replicate 8 (.k 1)) xn on (by kernel_rfl) fun w15 hA => ?_
      have hApm := hA.atK [⟨w.heap.size, .cells #[.int .i64 b.kind, .int .i64 b.runners, .slice (some ⟨b1, off, none⟩) n c, .slice A2 m c2, .bool b.fav, .int .i64 b.car, .int .i64 b.dut, .int .i64 b.stp] 25 (0, 0)⟩, ⟨w6.heap.size, .cells #[.int .i64 b.kind, .int .i64 b.runners, .slice (some ⟨g5, 0, none⟩) n c5, .slice A2 m c2, .bool b.fav, .int .i64 b.car, .int .i64 b.dut, .int .i64 b.stp] 25 (0, 0)⟩, ⟨w6.heap.size + 1, .cells #[] 53 (0, 0)⟩] (by kernel_rfl)
      refine call hA [] on (paidS_any w15 w15.heap.size (bkB b (rotL b.bets k)) (some ⟨g5, 0, none⟩) n c5 A2 m c2 Af (finL b ys 8).length cf (finL b ys 8) (dvL b (finL b ys 8)) LN (⟨hbo5 _ (fun kb hk => hA.at_.rok kb (List.mem_append_right _ (List.mem_append_left _ hk))), (h.scr.below hA.below hB).more (Nat.le_trans hB hA.size), hc5, h.hc2⟩) (hfk _ (fun kb hk => hA.at_.rok kb (List.mem_append_right _ (List.mem_append_right _ (List.mem_append_left _ hk))))) (Nat.le_refl _) h0x hfx (dvL_same hsx _) (hLN.symm)) (by kernel_rfl) (by rintro e v ⟨Am, cm, rfl, hbm, hom⟩; exact hbm) ?_
      rintro e w16 ⟨Am, cm, rfl, hbm, hom⟩
      refine ⟨_, rfl, fun hA => ?_⟩
      have hq9 := At.own hApm hbm hom
      obtain ⟨ob8m, hrm, hA2m⟩ := hq9
      refine reknow ⟨[⟨w.heap.size, .cells #[.int .i64 b.kind, .int .i64 b.runners, .slice (some ⟨b1, off, none⟩) n c, .slice A2 m c2, .bool b.fav, .int .i64 b.car, .int .i64 b.dut, .int .i64 b.stp] 25 (0, 0)⟩, ⟨w6.heap.size, .cells #[.int .i64 b.kind, .int .i64 b.runners, .slice (some ⟨g5, 0, none⟩) n c5, .slice A2 m c2, .bool b.fav, .int .i64 b.car, .int .i64 b.dut, .int .i64 b.stp] 25 (0, 0)⟩, ⟨w6.heap.size + 1, .cells #[] 53 (0, 0)⟩], w16.heap.size, [], [], [], [], []⟩ hA2m (Nat.zero_le _) fun hA => ?_
      have hptm := row_at hrm (by omega)
      refine runS hA 11 (List.replicate 8 (.k 0)) xn on (by kernel_rfl) fun w17 hA => ?_
      have hP := Account_any w17 w17.heap.size b (some ⟨b1, off, none⟩) n c A2 m c2 Af (finL b ys 8).length cf (finL b ys 8) ((h.below hA.below hB).more (Nat.le_trans hB hA.size)) (hfk _ (fun kb hk => hA.at_.rok kb (List.mem_append_right _ (List.mem_append_right _ (List.mem_append_right _ (List.mem_append_left _ hk)))))) (Nat.le_refl _)
      rw [← ha, hat0] at hP
      refine callB hA [] on (hP) (by kernel_rfl) fun w18 hb18 hA => ?_
      refine runS hA 12 (List.replicate 6 (.k 3) ++ List.replicate 8 (.k 1)) xn on (by kernel_rfl) fun w19 hA => ?_
      have hP := Account_any w19 w19.heap.size (bkB b (rotL b.bets k)) (some ⟨g5, 0, none⟩) n c5 A2 m c2 Af (finL b ys 8).length cf (finL b ys 8) (⟨hbo5 _ (fun kb hk => hA.at_.rok kb (List.mem_append_right _ (List.mem_append_right _ (List.mem_append_left _ hk)))), (h.scr.below hA.below hB).more (Nat.le_trans hB hA.size), hc5, h.hc2⟩) (hfk _ (fun kb hk => hA.at_.rok kb (List.mem_append_right _ (List.mem_append_right _ (List.mem_append_right _ (List.mem_append_left _ hk)))))) (Nat.le_refl _)
      rw [hax, hatx] at hP
      refine callB hA [] on (hP) (by kernel_rfl) fun w20 hb20 hA => ?_
      refine runS hA 20 (List.replicate 6 (.k 4) ++ List.replicate 4 (.g false)) xn (oc (rfl : Value.bool false = .bool false) (oc (rfl : Value.bool false = .bool false) (oc (rfl : Value.bool false = .bool false) (oc (rfl : Value.bool false = .bool false) on)))) (by kernel_rfl) fun w21 hA => ?_
      have hL1 := hptl _ (fun kb hk => hA.at_.rok kb (List.mem_append_right _ (List.mem_append_left _ hk)))
      have hM1 := hptm _ (fun kb hk => hA.at_.rok kb (List.mem_append_left _ hk))
      refine callB hA [] on (ldiv_any w21 w21.heap.size Al LN cl Am LN cm (dvL b (finL b ys 8)) (dvL b (finL b ys 8)) hL1 hM1 (Nat.le_refl _)) (by kernel_rfl) fun w22 hb22 hA => ?_
      refine revals hA (rc 98 (show .bool (decide ((dvL b (finL b ys 8)) = (dvL b (finL b ys 8)))) = .bool true by rw [decide_eq_true rfl]) rn) (by kernel_rfl) fun hA => ?_
      refine runS hA 13 (List.replicate 6 (.g false) ++ List.replicate 6 (.k 3) ++ [.g false] ++ List.replicate 6 (.k 4)) xn (oc (rfl : Value.bool false = .bool false) (oc (rfl : Value.bool false = .bool false) (oc (rfl : Value.bool false = .bool false) (oc (rfl : Value.bool false = .bool false) (oc (rfl : Value.bool false = .bool false) (oc (rfl : Value.bool false = .bool false) (oc (rfl : Value.bool false = .bool false) on))))))) (by kernel_rfl) fun w23 hA => ?_
      refine opv (v := .bool false) hA [] on (s := cmpSem .neq 47 (.tmp 110) (.tmp 111) (.agg #[.int .i64 a.inn, .int .i64 a.back, .int .i64 a.duty, .int .i64 a.paid, .int .i64 a.kept, .int .i64 a.over]) (.agg #[.int .i64 a.inn, .int .i64 a.back, .int .i64 a.duty, .int .i64 a.paid, .int .i64 a.kept, .int .i64 a.over])) (by kernel_rfl) (cmp_flat (n := 6) true (by kernel_rfl) _ (by kernel_rfl) (fun i hi => by match i, hi with | 0, _ => exact ⟨_, _, _, rfl, rfl⟩ | 1, _ => exact ⟨_, _, _, rfl, rfl⟩ | 2, _ => exact ⟨_, _, _, rfl, rfl⟩ | 3, _ => exact ⟨_, _, _, rfl, rfl⟩ | 4, _ => exact ⟨_, _, _, rfl, rfl⟩ | 5, _ => exact ⟨_, _, _, rfl, rfl⟩) (True) (⟨fun _ => trivial, fun _ => rfl⟩) (by kernel_rfl)) fun hA => ?_
      refine runS hA 7 [] xn on (by kernel_rfl) fun w24 hA => ?_
      refine draw hA [true, true, true, true, true] [0, 1, 2, 3, 4, 5, 6, 7, 8, 9, 10, 11, 12, 13] (by kernel_rfl) (by kernel_rfl) fun hA => ?_
      refine runS hA 6 [.t 0, .t 1, .t 2, .t 3, .k 0, .t 4, .t 5, .z] xn (oc (show n ≠ (0 : Int) by omega) on) (by kernel_rfl) fun w25 hA => ?_
      refine revals hA (rc 119 (show .int .i64 ((IntKind.i64.wrap (a1 : Int)).tmod n) = .int .i64 (i : Int) by rw [hwa1, ← Int.ofNat_tmod, ← hmi]) rn) (by kernel_rfl) fun hA => ?_
      refine runS hA 6 [.t 6, .t 7, .t 8, .t 9, .k 0, .t 10, .t 11, .z] xn (oc (show n ≠ (0 : Int) by omega) on) (by kernel_rfl) fun w26 hA => ?_
      refine revals hA (rc 125 (show .int .i64 ((IntKind.i64.wrap (a2 : Int)).tmod n) = .int .i64 (j : Int) by rw [hwa2, ← Int.ofNat_tmod, ← hmj]) rn) (by kernel_rfl) fun hA => ?_
      refine runS hA 5 [.t 12, .t 13, .b true] xn on (by kernel_rfl) fun w27 hA => ?_
      refine draw hA [true, true, true, true, true] [0, 1, 2, 3, 4, 5, 6, 7, 8, 9, 10, 11, 12, 13] (by kernel_rfl) (by kernel_rfl) fun hA => ?_
      refine runS hA 10 [.t 0, .t 1, .k 0, .t 2, .t 3, .i, .t 4, .x (.int .i64 ((b.bets[i]?.getD noBet).first)), .x (.int .i64 ((b.bets[i]?.getD noBet).second)), .x (.int .i64 ((b.bets[i]?.getD noBet).units)), .t 5, .t 6, .k 0, .t 7, .t 8, .i, .t 9, .x (.int .i64 ((b.bets[j]?.getD noBet).first)), .x (.int .i64 ((b.bets[j]?.getD noBet).second)), .x (.int .i64 ((b.bets[j]?.getD noBet).units))] (xc (a := ⟨b1, off + i * 3, none⟩) ⟨hlb1, (hcb i (by omega)).1⟩ (xc (a := ⟨b1, off + i * 3 + 1, none⟩) ⟨hlb1, (hcb i (by omega)).2.1⟩ (xc (a := ⟨b1, off + i * 3 + 2, none⟩) ⟨hlb1, (hcb i (by omega)).2.2⟩ (xc (a := ⟨b1, off + j * 3, none⟩) ⟨hlb1, (hcb j (by omega)).1⟩ (xc (a := ⟨b1, off + j * 3 + 1, none⟩) ⟨hlb1, (hcb j (by omega)).2.1⟩ (xc (a := ⟨b1, off + j * 3 + 2, none⟩) ⟨hlb1, (hcb j (by omega)).2.2⟩ xn)))))) (oc (show (0 : Int) ≤ ((i : Int) : Int) ∧ ((i : Int) : Int) < (n : Int) by omega) (oc (show (0 : Int) ≤ ((j : Int) : Int) ∧ ((j : Int) : Int) < (n : Int) by omega) on)) (by kernel_rfl) fun w28 hA => ?_
      have hA0PQ := hA
      refine latK hA0PQ [10, 11, 12, 13] (γ := Nat × Nat) (fun ⟨bPQ10, bPQ11⟩ => [(5, .pointer (some ⟨w.heap.size, 0, none⟩)), (10, .bool false), (11, .slice Af ((finL b ys 8).length) cf), (13, .pointer (some ⟨w6.heap.size, 0, none⟩)), (14, .slice Al LN cl), (16, .slice Am LN cm), (17, .bool true), (18, .pointer (some ⟨w18.heap.size, 0, none⟩)), (20, .pointer (some ⟨w20.heap.size, 0, none⟩)), (21, .int .i64 0), (22, .int .i64 (i : Int)), (23, .int .i64 (j : Int)), (24, .pointer (some ⟨bPQ10, 0, none⟩)), (25, .pointer (some ⟨bPQ11, 0, none⟩))]) (fun ⟨bPQ10, bPQ11⟩ => [⟨w.heap.size, .cells #[.int .i64 b.kind, .int .i64 b.runners, .slice (some ⟨b1, off, none⟩) n c, .slice A2 m c2, .bool b.fav, .int .i64 b.car, .int .i64 b.dut, .int .i64 b.stp] 25 (0, 0)⟩, ⟨w6.heap.size, .cells #[.int .i64 b.kind, .int .i64 b.runners, .slice (some ⟨g5, 0, none⟩) n c5, .slice A2 m c2, .bool b.fav, .int .i64 b.car, .int .i64 b.dut, .int .i64 b.stp] 25 (0, 0)⟩, ⟨w6.heap.size + 1, .cells #[] 53 (0, 0)⟩, ⟨w18.heap.size, .cells #[.int .i64 a.inn, .int .i64 a.back, .int .i64 a.duty, .int .i64 a.paid, .int .i64 a.kept, .int .i64 a.over] 47 (0, 0)⟩, ⟨w20.heap.size, .cells #[.int .i64 a.inn, .int .i64 a.back, .int .i64 a.duty, .int .i64 a.paid, .int .i64 a.kept, .int .i64 a.over] 47 (0, 0)⟩, ⟨bPQ10, .cells #[.int .i64 ((b.bets[i]?.getD noBet).first), .int .i64 ((b.bets[i]?.getD noBet).second), .int .i64 ((b.bets[i]?.getD noBet).units)] 53 (0, 0)⟩, ⟨bPQ11, .cells #[.int .i64 ((b.bets[j]?.getD noBet).first), .int .i64 ((b.bets[j]?.getD noBet).second), .int .i64 ((b.bets[j]?.getD noBet).units)] 53 (0, 0)⟩]) (fun ⟨bPQ10, bPQ11⟩ => ob8m ++ (ob8l ++ (ob2 ++ (ob ++ ([]))))) (fun ⟨bPQ10, bPQ11⟩ _ => True) (fun hPQ10_11_12_13 => ?_) ?_
      ·
        refine latS hA0PQ [10, 11, 12] (γ := Nat × Nat) (fun ⟨bPQ10, bPQ11⟩ => [(5, .pointer (some ⟨w.heap.size, 0, none⟩)), (10, .bool false), (11, .slice Af ((finL b ys 8).length) cf), (13, .pointer (some ⟨w6.heap.size, 0, none⟩)), (14, .slice Al LN cl), (16, .slice Am LN cm), (17, .bool true), (18, .pointer (some ⟨w18.heap.size, 0, none⟩)), (20, .pointer (some ⟨w20.heap.size, 0, none⟩)), (21, .int .i64 0), (22, .int .i64 (i : Int)), (23, .int .i64 (j : Int)), (24, .pointer (some ⟨bPQ10, 0, none⟩)), (25, .pointer (some ⟨bPQ11, 0, none⟩)), (126, .pointer (some ⟨w.heap.size, 2, none⟩)), (127, .slice (some ⟨b1, off, none⟩) n c), (128, .int .i64 (i : Int)), (129, .pointer (some ⟨b1, off + i * 3, none⟩)), (130, .agg #[.int .i64 ((b.bets[i]?.getD noBet).first), .int .i64 ((b.bets[i]?.getD noBet).second), .int .i64 ((b.bets[i]?.getD noBet).units)]), (131, .pointer (some ⟨w.heap.size, 2, none⟩)), (132, .slice (some ⟨b1, off, none⟩) n c), (133, .int .i64 (j : Int)), (134, .pointer (some ⟨b1, off + j * 3, none⟩)), (135, .agg #[.int .i64 ((b.bets[j]?.getD noBet).first), .int .i64 ((b.bets[j]?.getD noBet).second), .int .i64 ((b.bets[j]?.getD noBet).units)])]) (fun ⟨bPQ10, bPQ11⟩ => [⟨w.heap.size, .cells #[.int .i64 b.kind, .int .i64 b.runners, .slice (some ⟨b1, off, none⟩) n c, .slice A2 m c2, .bool b.fav, .int .i64 b.car, .int .i64 b.dut, .int .i64 b.stp] 25 (0, 0)⟩, ⟨w6.heap.size, .cells #[.int .i64 b.kind, .int .i64 b.runners, .slice (some ⟨g5, 0, none⟩) n c5, .slice A2 m c2, .bool b.fav, .int .i64 b.car, .int .i64 b.dut, .int .i64 b.stp] 25 (0, 0)⟩, ⟨w6.heap.size + 1, .cells #[] 53 (0, 0)⟩, ⟨w18.heap.size, .cells #[.int .i64 a.inn, .int .i64 a.back, .int .i64 a.duty, .int .i64 a.paid, .int .i64 a.kept, .int .i64 a.over] 47 (0, 0)⟩, ⟨w20.heap.size, .cells #[.int .i64 a.inn, .int .i64 a.back, .int .i64 a.duty, .int .i64 a.paid, .int .i64 a.kept, .int .i64 a.over] 47 (0, 0)⟩, ⟨bPQ10, .cells #[.int .i64 ((b.bets[i]?.getD noBet).first), .int .i64 ((b.bets[i]?.getD noBet).second), .int .i64 ((b.bets[i]?.getD noBet).units)] 53 (0, 0)⟩, ⟨bPQ11, .cells #[.int .i64 0, .int .i64 0, .int .i64 0] 53 (0, 0)⟩]) (fun ⟨bPQ10, bPQ11⟩ => ob8m ++ (ob8l ++ (ob2 ++ (ob ++ ([]))))) (fun ⟨bPQ10, bPQ11⟩ _ => True) ?_ (fun hPQ10_11_12 => ?_)
        · rintro ⟨bPQ10, bPQ11⟩ wl29 _ hA
          refine runS hA 1 [.h 13, .k 6, .k 6, .k 6] xn on (by kernel_rfl) fun w130 hA => ?_
          exact joinE hPQ10_11_12_13 ⟨bPQ10, bPQ11⟩ trivial [0, 1, 2, 3, 4, 5, 6] hA rfl (by kernel_rfl) (by decide)
        refine latS hA0PQ [10, 11] (γ := Nat × Nat) (fun ⟨bPQ10, bPQ11⟩ => [(5, .pointer (some ⟨w.heap.size, 0, none⟩)), (10, .bool false), (11, .slice Af ((finL b ys 8).length) cf), (13, .pointer (some ⟨w6.heap.size, 0, none⟩)), (14, .slice Al LN cl), (16, .slice Am LN cm), (17, .bool true), (18, .pointer (some ⟨w18.heap.size, 0, none⟩)), (20, .pointer (some ⟨w20.heap.size, 0, none⟩)), (21, .int .i64 0), (22, .int .i64 (i : Int)), (23, .int .i64 (j : Int)), (24, .pointer (some ⟨bPQ10, 0, none⟩)), (25, .pointer (some ⟨bPQ11, 0, none⟩)), (126, .pointer (some ⟨w.heap.size, 2, none⟩)), (127, .slice (some ⟨b1, off, none⟩) n c), (128, .int .i64 (i : Int)), (129, .pointer (some ⟨b1, off + i * 3, none⟩)), (130, .agg #[.int .i64 ((b.bets[i]?.getD noBet).first), .int .i64 ((b.bets[i]?.getD noBet).second), .int .i64 ((b.bets[i]?.getD noBet).units)]), (131, .pointer (some ⟨w.heap.size, 2, none⟩)), (132, .slice (some ⟨b1, off, none⟩) n c), (133, .int .i64 (j : Int)), (134, .pointer (some ⟨b1, off + j * 3, none⟩)), (135, .agg #[.int .i64 ((b.bets[j]?.getD noBet).first), .int .i64 ((b.bets[j]?.getD noBet).second), .int .i64 ((b.bets[j]?.getD noBet).units)])]) (fun ⟨bPQ10, bPQ11⟩ => [⟨w.heap.size, .cells #[.int .i64 b.kind, .int .i64 b.runners, .slice (some ⟨b1, off, none⟩) n c, .slice A2 m c2, .bool b.fav, .int .i64 b.car, .int .i64 b.dut, .int .i64 b.stp] 25 (0, 0)⟩, ⟨w6.heap.size, .cells #[.int .i64 b.kind, .int .i64 b.runners, .slice (some ⟨g5, 0, none⟩) n c5, .slice A2 m c2, .bool b.fav, .int .i64 b.car, .int .i64 b.dut, .int .i64 b.stp] 25 (0, 0)⟩, ⟨w6.heap.size + 1, .cells #[] 53 (0, 0)⟩, ⟨w18.heap.size, .cells #[.int .i64 a.inn, .int .i64 a.back, .int .i64 a.duty, .int .i64 a.paid, .int .i64 a.kept, .int .i64 a.over] 47 (0, 0)⟩, ⟨w20.heap.size, .cells #[.int .i64 a.inn, .int .i64 a.back, .int .i64 a.duty, .int .i64 a.paid, .int .i64 a.kept, .int .i64 a.over] 47 (0, 0)⟩, ⟨bPQ10, .cells #[.int .i64 0, .int .i64 0, .int .i64 0] 53 (0, 0)⟩, ⟨bPQ11, .cells #[.int .i64 0, .int .i64 0, .int .i64 0] 53 (0, 0)⟩]) (fun ⟨bPQ10, bPQ11⟩ => ob8m ++ (ob8l ++ (ob2 ++ (ob ++ ([]))))) (fun ⟨bPQ10, bPQ11⟩ _ => True) ?_ (fun hPQ10_11 => ?_)
        · rintro ⟨bPQ10, bPQ11⟩ wl30 _ hA
          refine runS hA 1 [.h 12, .k 5, .k 5, .k 5] xn on (by kernel_rfl) fun w131 hA => ?_
          exact joinE hPQ10_11_12 ⟨bPQ10, bPQ11⟩ trivial [0, 1, 2, 3, 4, 5, 6] hA rfl (by kernel_rfl) (by decide)
        refine latS hA0PQ [11] (γ := Nat) (fun bPQ11 => [(5, .pointer (some ⟨w.heap.size, 0, none⟩)), (10, .bool false), (11, .slice Af ((finL b ys 8).length) cf), (13, .pointer (some ⟨w6.heap.size, 0, none⟩)), (14, .slice Al LN cl), (16, .slice Am LN cm), (17, .bool true), (18, .pointer (some ⟨w18.heap.size, 0, none⟩)), (20, .pointer (some ⟨w20.heap.size, 0, none⟩)), (21, .int .i64 0), (22, .int .i64 (i : Int)), (23, .int .i64 (j : Int)), (25, .pointer (some ⟨bPQ11, 0, none⟩)), (126, .pointer (some ⟨w.heap.size, 2, none⟩)), (127, .slice (some ⟨b1, off, none⟩) n c), (128, .int .i64 (i : Int)), (129, .pointer (some ⟨b1, off + i * 3, none⟩)), (130, .agg #[.int .i64 ((b.bets[i]?.getD noBet).first), .int .i64 ((b.bets[i]?.getD noBet).second), .int .i64 ((b.bets[i]?.getD noBet).units)]), (131, .pointer (some ⟨w.heap.size, 2, none⟩)), (132, .slice (some ⟨b1, off, none⟩) n c), (133, .int .i64 (j : Int)), (134, .pointer (some ⟨b1, off + j * 3, none⟩)), (135, .agg #[.int .i64 ((b.bets[j]?.getD noBet).first), .int .i64 ((b.bets[j]?.getD noBet).second), .int .i64 ((b.bets[j]?.getD noBet).units)])]) (fun bPQ11 => [⟨w.heap.size, .cells #[.int .i64 b.kind, .int .i64 b.runners, .slice (some ⟨b1, off, none⟩) n c, .slice A2 m c2, .bool b.fav, .int .i64 b.car, .int .i64 b.dut, .int .i64 b.stp] 25 (0, 0)⟩, ⟨w6.heap.size, .cells #[.int .i64 b.kind, .int .i64 b.runners, .slice (some ⟨g5, 0, none⟩) n c5, .slice A2 m c2, .bool b.fav, .int .i64 b.car, .int .i64 b.dut, .int .i64 b.stp] 25 (0, 0)⟩, ⟨w6.heap.size + 1, .cells #[] 53 (0, 0)⟩, ⟨w18.heap.size, .cells #[.int .i64 a.inn, .int .i64 a.back, .int .i64 a.duty, .int .i64 a.paid, .int .i64 a.kept, .int .i64 a.over] 47 (0, 0)⟩, ⟨w20.heap.size, .cells #[.int .i64 a.inn, .int .i64 a.back, .int .i64 a.duty, .int .i64 a.paid, .int .i64 a.kept, .int .i64 a.over] 47 (0, 0)⟩, ⟨bPQ11, .cells #[.int .i64 0, .int .i64 0, .int .i64 0] 53 (0, 0)⟩]) (fun bPQ11 => ob8m ++ (ob8l ++ (ob2 ++ (ob ++ ([]))))) (fun bPQ11 _ => True) ?_ (fun hPQ11 => ?_)
        · rintro bPQ11 wl31 _ hA
          refine runS hA 1 [.h 10] xn on (by kernel_rfl) fun w132 hA => ?_
          exact joinE hPQ10_11 ⟨wl31.heap.size, bPQ11⟩ trivial [0, 1, 2, 3, 4, 6, 5] hA rfl (by kernel_rfl) (by decide)
        refine latS hA0PQ [10] (γ := Nat) (fun bPQ10 => [(5, .pointer (some ⟨w.heap.size, 0, none⟩)), (10, .bool false), (11, .slice Af ((finL b ys 8).length) cf), (13, .pointer (some ⟨w6.heap.size, 0, none⟩)), (14, .slice Al LN cl), (16, .slice Am LN cm), (17, .bool true), (18, .pointer (some ⟨w18.heap.size, 0, none⟩)), (20, .pointer (some ⟨w20.heap.size, 0, none⟩)), (21, .int .i64 0), (22, .int .i64 (i : Int)), (23, .int .i64 (j : Int)), (24, .pointer (some ⟨bPQ10, 0, none⟩)), (126, .pointer (some ⟨w.heap.size, 2, none⟩)), (127, .slice (some ⟨b1, off, none⟩) n c), (128, .int .i64 (i : Int)), (129, .pointer (some ⟨b1, off + i * 3, none⟩)), (130, .agg #[.int .i64 ((b.bets[i]?.getD noBet).first), .int .i64 ((b.bets[i]?.getD noBet).second), .int .i64 ((b.bets[i]?.getD noBet).units)]), (131, .pointer (some ⟨w.heap.size, 2, none⟩)), (132, .slice (some ⟨b1, off, none⟩) n c), (133, .int .i64 (j : Int)), (134, .pointer (some ⟨b1, off + j * 3, none⟩)), (135, .agg #[.int .i64 ((b.bets[j]?.getD noBet).first), .int .i64 ((b.bets[j]?.getD noBet).second), .int .i64 ((b.bets[j]?.getD noBet).units)])]) (fun bPQ10 => [⟨w.heap.size, .cells #[.int .i64 b.kind, .int .i64 b.runners, .slice (some ⟨b1, off, none⟩) n c, .slice A2 m c2, .bool b.fav, .int .i64 b.car, .int .i64 b.dut, .int .i64 b.stp] 25 (0, 0)⟩, ⟨w6.heap.size, .cells #[.int .i64 b.kind, .int .i64 b.runners, .slice (some ⟨g5, 0, none⟩) n c5, .slice A2 m c2, .bool b.fav, .int .i64 b.car, .int .i64 b.dut, .int .i64 b.stp] 25 (0, 0)⟩, ⟨w6.heap.size + 1, .cells #[] 53 (0, 0)⟩, ⟨w18.heap.size, .cells #[.int .i64 a.inn, .int .i64 a.back, .int .i64 a.duty, .int .i64 a.paid, .int .i64 a.kept, .int .i64 a.over] 47 (0, 0)⟩, ⟨w20.heap.size, .cells #[.int .i64 a.inn, .int .i64 a.back, .int .i64 a.duty, .int .i64 a.paid, .int .i64 a.kept, .int .i64 a.over] 47 (0, 0)⟩, ⟨bPQ10, .cells #[.int .i64 0, .int .i64 0, .int .i64 0] 53 (0, 0)⟩]) (fun bPQ10 => ob8m ++ (ob8l ++ (ob2 ++ (ob ++ ([]))))) (fun bPQ10 _ => True) ?_ (fun hPQ10 => ?_)
        · rintro bPQ10 wl32 _ hA
          refine runS hA 1 [.h 11] xn on (by kernel_rfl) fun w133 hA => ?_
          exact joinE hPQ10_11 ⟨bPQ10, wl32.heap.size⟩ trivial [0, 1, 2, 3, 4, 5, 6] hA rfl (by kernel_rfl) (by decide)
        replace hA := hA0PQ
        refine manyS hA 10 [11] (by kernel_rfl) ⟨fun hA => ?_, fun hA => ?_, trivial⟩
        ·
          refine runS hA 1 [] xn on (by kernel_rfl) fun w33 hA => ?_
          exact joinE hPQ10 w23.heap.size trivial [0, 1, 2, 3, 4, 5] hA rfl (by kernel_rfl) (by decide)
        ·
          refine runS hA 1 [] xn on (by kernel_rfl) fun w33 hA => ?_
          exact joinE hPQ11 w23.heap.size trivial [0, 1, 2, 3, 4, 5] hA rfl (by kernel_rfl) (by decide)
      rintro ⟨bPQ10, bPQ11⟩ w82 _ hA
      refine runS hA 9 [.b true, .t 0] xn on (by kernel_rfl) fun w83 hA => ?_
      have hpm : (b.bets[i]?.getD noBet) ∈ b.bets := get_mem (by omega)
      have hqm : (b.bets[j]?.getD noBet) ∈ b.bets := get_mem (by omega)
      have hpu := (V.first hpm).2
      have hqu := (V.first hqm).2
      have hwu : IntKind.i64.wrap ((b.bets[i]?.getD noBet).units + (b.bets[j]?.getD noBet).units) = (b.bets[i]?.getD noBet).units + (b.bets[j]?.getD noBet).units := by rw [IntKind.wrap_i64]; omega
      by_cases t0 : i = j
      case pos =>
        refine runS hA 26 (List.replicate 16 (.g true)) xn (oc (eq_t (a := (i : Int)) (b := (j : Int)) (by omega)) (oc (rfl : Value.bool true = .bool true) (oc (rfl : Value.bool true = .bool true) (oc (rfl : Value.bool true = .bool true) (oc (rfl : Value.bool true = .bool true) (oc (rfl : Value.bool true = .bool true) (oc (rfl : Value.bool true = .bool true) (oc (rfl : Value.bool true = .bool true) (oc (rfl : Value.bool true = .bool true) (oc (rfl : Value.bool true = .bool true) (oc (rfl : Value.bool true = .bool true) (oc (rfl : Value.bool true = .bool true) (oc (rfl : Value.bool true = .bool true) (oc (rfl : Value.bool true = .bool true) (oc (rfl : Value.bool true = .bool true) (oc (rfl : Value.bool true = .bool true) on)))))))))))))))) (by kernel_rfl) fun w84 hA => ?_
        refine callB hA [] on (Works_any w84) (by kernel_rfl) fun w85 hb85 hA => ?_
        refine runS hA 5 [] xn on (by kernel_rfl) fun w86 hA => ?_
        exact ret (v := .bool true) hA [] (by kernel_rfl) ⟨rfl, hA.below⟩
      case neg =>
        by_cases t1 : (b.bets[i]?.getD noBet).first = (b.bets[j]?.getD noBet).first
        case neg =>
          refine runS hA 26 ([.g false, .g false, .k 5, .g false, .g false, .k 6, .g false] ++ List.replicate 11 (.g true)) xn (oc (eq_f (a := (i : Int)) (b := (j : Int)) (by omega)) (oc (rfl : Value.bool false = .bool false) (oc (rfl : Value.bool false = .bool false) (oc (rfl : Value.bool false = .bool false) (oc (rfl : Value.bool false = .bool false) (oc (ne_t t1) (oc (rfl : Value.bool true = .bool true) (oc (rfl : Value.bool true = .bool true) (oc (rfl : Value.bool true = .bool true) (oc (rfl : Value.bool true = .bool true) (oc (rfl : Value.bool true = .bool true) (oc (rfl : Value.bool true = .bool true) (oc (rfl : Value.bool true = .bool true) (oc (rfl : Value.bool true = .bool true) (oc (rfl : Value.bool true = .bool true) (oc (rfl : Value.bool true = .bool true) on)))))))))))))))) (by kernel_rfl) fun w84 hA => ?_
          refine callB hA [] on (Works_any w84) (by kernel_rfl) fun w85 hb85 hA => ?_
          refine runS hA 5 [] xn on (by kernel_rfl) fun w86 hA => ?_
          exact ret (v := .bool true) hA [] (by kernel_rfl) ⟨rfl, hA.below⟩
        case pos =>
          by_cases t2 : (b.bets[i]?.getD noBet).second = (b.bets[j]?.getD noBet).second
          case neg =>
            refine runS hA 26 ([.g false, .g false, .k 5, .g false, .g false, .k 6, .g false, .g false, .g false, .k 5, .g false, .g false, .k 6, .g false] ++ List.replicate 6 (.g true)) xn (oc (eq_f (a := (i : Int)) (b := (j : Int)) (by omega)) (oc (rfl : Value.bool false = .bool false) (oc (rfl : Value.bool false = .bool false) (oc (rfl : Value.bool false = .bool false) (oc (rfl : Value.bool false = .bool false) (oc (ne_f t1) (oc (rfl : Value.bool false = .bool false) (oc (rfl : Value.bool false = .bool false) (oc (rfl : Value.bool false = .bool false) (oc (rfl : Value.bool false = .bool false) (oc (ne_t t2) (oc (rfl : Value.bool true = .bool true) (oc (rfl : Value.bool true = .bool true) (oc (rfl : Value.bool true = .bool true) (oc (rfl : Value.bool true = .bool true) (oc (rfl : Value.bool true = .bool true) on)))))))))))))))) (by kernel_rfl) fun w84 hA => ?_
            refine callB hA [] on (Works_any w84) (by kernel_rfl) fun w85 hb85 hA => ?_
            refine runS hA 5 [] xn on (by kernel_rfl) fun w86 hA => ?_
            exact ret (v := .bool true) hA [] (by kernel_rfl) ⟨rfl, hA.below⟩
          case pos =>
            by_cases t3 : (b.bets[i]?.getD noBet).units + (b.bets[j]?.getD noBet).units > 1000
            case pos =>
              refine runS hA 26 [.g false, .g false, .k 5, .g false, .g false, .k 6, .g false, .g false, .g false, .k 5, .g false, .g false, .k 6, .g false, .g false, .g false, .k 5, .g false, .g false, .k 6, .g false, .g false, .b true] xn (oc (eq_f (a := (i : Int)) (b := (j : Int)) (by omega)) (oc (rfl : Value.bool false = .bool false) (oc (rfl : Value.bool false = .bool false) (oc (rfl : Value.bool false = .bool false) (oc (rfl : Value.bool false = .bool false) (oc (ne_f t1) (oc (rfl : Value.bool false = .bool false) (oc (rfl : Value.bool false = .bool false) (oc (rfl : Value.bool false = .bool false) (oc (rfl : Value.bool false = .bool false) (oc (ne_f t2) (oc (rfl : Value.bool false = .bool false) (oc (rfl : Value.bool false = .bool false) (oc (rfl : Value.bool false = .bool false) (oc (rfl : Value.bool false = .bool false) (oc (rfl : Value.bool false = .bool false) (oc (dec_t (show IntKind.i64.wrap ((b.bets[i]?.getD noBet).units + (b.bets[j]?.getD noBet).units) > 1000 by rw [hwu]; exact t3)) on))))))))))))))))) (by kernel_rfl) fun w84 hA => ?_
              refine callB hA [] on (Works_any w84) (by kernel_rfl) fun w85 hb85 hA => ?_
              refine runS hA 5 [] xn on (by kernel_rfl) fun w86 hA => ?_
              exact ret (v := .bool true) hA [] (by kernel_rfl) ⟨rfl, hA.below⟩
            case neg =>
              refine runS hA 39 [.g false, .g false, .k 5, .g false, .g false, .k 6, .g false, .g false, .g false, .k 5, .g false, .g false, .k 6, .g false, .g false, .g false, .k 5, .g false, .g false, .k 6, .g false, .g false, .b false, .k 1] xn (oc (eq_f (a := (i : Int)) (b := (j : Int)) (by omega)) (oc (rfl : Value.bool false = .bool false) (oc (rfl : Value.bool false = .bool false) (oc (rfl : Value.bool false = .bool false) (oc (rfl : Value.bool false = .bool false) (oc (ne_f t1) (oc (rfl : Value.bool false = .bool false) (oc (rfl : Value.bool false = .bool false) (oc (rfl : Value.bool false = .bool false) (oc (rfl : Value.bool false = .bool false) (oc (ne_f t2) (oc (rfl : Value.bool false = .bool false) (oc (rfl : Value.bool false = .bool false) (oc (rfl : Value.bool false = .bool false) (oc (rfl : Value.bool false = .bool false) (oc (rfl : Value.bool false = .bool false) (oc (dec_f (show ¬ IntKind.i64.wrap ((b.bets[i]?.getD noBet).units + (b.bets[j]?.getD noBet).units) > 1000 by rw [hwu]; exact t3)) on))))))))))))))))) (by kernel_rfl) fun w84 hA => ?_
              have hr0 : RowV 53 3 (.slice none (jnL b.bets i j 0).length 0) (jnL b.bets i j 0).length (encB (jnL b.bets i j 0)) [] := RowV.nil _ _
              refine loop (γ := Nat × Option Addr × Nat × List KB) (fun ⟨q, Av, cv, ov⟩ => [(5, .pointer (some ⟨w.heap.size, 0, none⟩)), (10, .bool false), (11, .slice Af ((finL b ys 8).length) cf), (13, .pointer (some ⟨w6.heap.size, 0, none⟩)), (14, .slice Al LN cl), (16, .slice Am LN cm), (17, .bool true), (18, .pointer (some ⟨w18.heap.size, 0, none⟩)), (20, .pointer (some ⟨w20.heap.size, 0, none⟩)), (21, .int .i64 0), (22, .int .i64 (i : Int)), (23, .int .i64 (j : Int)), (25, .pointer (some ⟨bPQ11, 0, none⟩)), (26, .int .i64 (q : Int))]) (fun ⟨q, Av, cv, ov⟩ => [⟨w.heap.size, .cells #[.int .i64 b.kind, .int .i64 b.runners, .slice (some ⟨b1, off, none⟩) n c, .slice A2 m c2, .bool b.fav, .int .i64 b.car, .int .i64 b.dut, .int .i64 b.stp] 25 (0, 0)⟩, ⟨w6.heap.size, .cells #[.int .i64 b.kind, .int .i64 b.runners, .slice Av ((jnL b.bets i j q).length) cv, .slice A2 m c2, .bool b.fav, .int .i64 b.car, .int .i64 b.dut, .int .i64 b.stp] 25 (0, 0)⟩, ⟨w6.heap.size + 1, .cells #[] 53 (0, 0)⟩, ⟨w18.heap.size, .cells #[.int .i64 a.inn, .int .i64 a.back, .int .i64 a.duty, .int .i64 a.paid, .int .i64 a.kept, .int .i64 a.over] 47 (0, 0)⟩, ⟨w20.heap.size, .cells #[.int .i64 a.inn, .int .i64 a.back, .int .i64 a.duty, .int .i64 a.paid, .int .i64 a.kept, .int .i64 a.over] 47 (0, 0)⟩, ⟨bPQ10, .cells #[.int .i64 ((b.bets[i]?.getD noBet).first), .int .i64 ((b.bets[i]?.getD noBet).second), .int .i64 ((b.bets[i]?.getD noBet).units)] 53 (0, 0)⟩, ⟨bPQ11, .cells #[.int .i64 ((b.bets[j]?.getD noBet).first), .int .i64 ((b.bets[j]?.getD noBet).second), .int .i64 ((b.bets[j]?.getD noBet).units)] 53 (0, 0)⟩]) (fun ⟨q, Av, cv, ov⟩ => ov ++ (ob8m ++ (ob8l ++ (ob2 ++ (ob ++ ([])))))) (fun g ⟨q, Av, cv, ov⟩ wr => q ≤ n ∧ g = n - q ∧ RowV 53 3 (.slice Av (jnL b.bets i j q).length cv) (jnL b.bets i j q).length (encB (jnL b.bets i j q)) ov) n ⟨0, none, 0, []⟩ [true, true, true, true, true, true, true] hA (by kernel_rfl) (⟨Nat.zero_le _, rfl, hr0⟩) ?_
              rintro _ ⟨q, Av, cv, ov⟩ wr ⟨hq, rfl, hrq⟩ J hJ hA
              have hjl := jnL_len b.bets i j q
              by_cases hlt : q < n
              case neg =>
                refine runS hA 13 [.k 0, .b false] xn (oc (dec_f (show ¬ (((q : Int) : Int) < (n : Int)) by omega)) on) (by kernel_rfl) fun w85 hA => ?_
                refine leave hA (by kernel_rfl) fun hA => ?_
                refine runS hA 6 (List.replicate 8 (.k 1)) xn on (by kernel_rfl) fun w86 hA => ?_
                have hqn : q = b.bets.length := by omega
                have hbo6 := bets_at hrq (by omega)
                have hc6 := bets_cap hrq
                have h0j : bookF (bkB b (jnL b.bets i j q)) = 0 := by rw [hqn]; exact jn_ok h0 (by omega) (by omega) (by omega)
                have hsj : ∀ f, wS f (jnL b.bets i j q) = wS f b.bets := fun f => by rw [hqn]; exact jn_same t0 (by omega) (by omega) t1 t2 f
                have hfj : isFinF (bkB b (jnL b.bets i j q)) (finL b ys 8) = true := by rw [fin_bets]; exact hfin
                have hatj : atF (bkB b (jnL b.bets i j q)) (finL b ys 8) = 0 := by unfold atF; rw [if_pos h0j, if_pos hfj]
                have haj : AccountF (bkB b (jnL b.bets i j q)) (finL b ys 8) = a := by rw [ha]; exact acc_same h0 h0j hsj hfin
                have hApz := hA.atK [⟨w.heap.size, .cells #[.int .i64 b.kind, .int .i64 b.runners, .slice (some ⟨b1, off, none⟩) n c, .slice A2 m c2, .bool b.fav, .int .i64 b.car, .int .i64 b.dut, .int .i64 b.stp] 25 (0, 0)⟩, ⟨w6.heap.size, .cells #[.int .i64 b.kind, .int .i64 b.runners, .slice Av ((jnL b.bets i j q).length) cv, .slice A2 m c2, .bool b.fav, .int .i64 b.car, .int .i64 b.dut, .int .i64 b.stp] 25 (0, 0)⟩, ⟨w6.heap.size + 1, .cells #[] 53 (0, 0)⟩, ⟨w18.heap.size, .cells #[.int .i64 a.inn, .int .i64 a.back, .int .i64 a.duty, .int .i64 a.paid, .int .i64 a.kept, .int .i64 a.over] 47 (0, 0)⟩, ⟨w20.heap.size, .cells #[.int .i64 a.inn, .int .i64 a.back, .int .i64 a.duty, .int .i64 a.paid, .int .i64 a.kept, .int .i64 a.over] 47 (0, 0)⟩, ⟨bPQ10, .cells #[.int .i64 ((b.bets[i]?.getD noBet).first), .int .i64 ((b.bets[i]?.getD noBet).second), .int .i64 ((b.bets[i]?.getD noBet).units)] 53 (0, 0)⟩, ⟨bPQ11, .cells #[.int .i64 ((b.bets[j]?.getD noBet).first), .int .i64 ((b.bets[j]?.getD noBet).second), .int .i64 ((b.bets[j]?.getD noBet).units)] 53 (0, 0)⟩] (by kernel_rfl)
                refine call hA [] on (paidS_any w86 w86.heap.size (bkB b (jnL b.bets i j q)) Av (jnL b.bets i j q).length cv A2 m c2 Af (finL b ys 8).length cf (finL b ys 8) (dvL b (finL b ys 8)) LN (⟨hbo6 _ (fun kb hk => hA.at_.rok kb (List.mem_append_left _ hk)), (h.scr.below hA.below hB).more (Nat.le_trans hB hA.size), hc6, h.hc2⟩) (hfk _ (fun kb hk => hA.at_.rok kb (List.mem_append_right _ (List.mem_append_right _ (List.mem_append_right _ (List.mem_append_right _ (List.mem_append_left _ hk))))))) (Nat.le_refl _) h0j hfj (dvL_same hsj _) (hLN.symm)) (by kernel_rfl) (by rintro e v ⟨Az, cz, rfl, hbz, hoz⟩; exact hbz) ?_
                rintro e w87 ⟨Az, cz, rfl, hbz, hoz⟩
                refine ⟨_, rfl, fun hA => ?_⟩
                have hq9 := At.own hApz hbz hoz
                obtain ⟨ob8z, hrz, hA2z⟩ := hq9
                refine reknow ⟨[⟨w.heap.size, .cells #[.int .i64 b.kind, .int .i64 b.runners, .slice (some ⟨b1, off, none⟩) n c, .slice A2 m c2, .bool b.fav, .int .i64 b.car, .int .i64 b.dut, .int .i64 b.stp] 25 (0, 0)⟩, ⟨w6.heap.size, .cells #[.int .i64 b.kind, .int .i64 b.runners, .slice Av ((jnL b.bets i j q).length) cv, .slice A2 m c2, .bool b.fav, .int .i64 b.car, .int .i64 b.dut, .int .i64 b.stp] 25 (0, 0)⟩, ⟨w6.heap.size + 1, .cells #[] 53 (0, 0)⟩, ⟨w18.heap.size, .cells #[.int .i64 a.inn, .int .i64 a.back, .int .i64 a.duty, .int .i64 a.paid, .int .i64 a.kept, .int .i64 a.over] 47 (0, 0)⟩, ⟨w20.heap.size, .cells #[.int .i64 a.inn, .int .i64 a.back, .int .i64 a.duty, .int .i64 a.paid, .int .i64 a.kept, .int .i64 a.over] 47 (0, 0)⟩, ⟨bPQ10, .cells #[.int .i64 ((b.bets[i]?.getD noBet).first), .int .i64 ((b.bets[i]?.getD noBet).second), .int .i64 ((b.bets[i]?.getD noBet).units)] 53 (0, 0)⟩, ⟨bPQ11, .cells #[.int .i64 ((b.bets[j]?.getD noBet).first), .int .i64 ((b.bets[j]?.getD noBet).second), .int .i64 ((b.bets[j]?.getD noBet).units)] 53 (0, 0)⟩], w87.heap.size, [], [], [], [], []⟩ hA2z (Nat.zero_le _) fun hA => ?_
                have hptz := row_at hrz (by omega)
                refine runS hA 11 (List.replicate 8 (.k 1)) xn on (by kernel_rfl) fun w88 hA => ?_
                have hP := Account_any w88 w88.heap.size (bkB b (jnL b.bets i j q)) Av (jnL b.bets i j q).length cv A2 m c2 Af (finL b ys 8).length cf (finL b ys 8) (⟨hbo6 _ (fun kb hk => hA.at_.rok kb (List.mem_append_right _ (List.mem_append_left _ hk))), (h.scr.below hA.below hB).more (Nat.le_trans hB hA.size), hc6, h.hc2⟩) (hfk _ (fun kb hk => hA.at_.rok kb (List.mem_append_right _ (List.mem_append_right _ (List.mem_append_right _ (List.mem_append_right _ (List.mem_append_right _ (List.mem_append_left _ hk)))))))) (Nat.le_refl _)
                rw [haj, hatj] at hP
                refine callB hA [] on (hP) (by kernel_rfl) fun w89 hb89 hA => ?_
                refine runS hA 13 (List.replicate 6 (.k 4) ++ [.g true, .g true]) xn (oc (rfl : Value.bool true = .bool true) (oc (rfl : Value.bool true = .bool true) on)) (by kernel_rfl) fun w90 hA => ?_
                have hL1 := hptl _ (fun kb hk => hA.at_.rok kb (List.mem_append_right _ (List.mem_append_right _ (List.mem_append_right _ (List.mem_append_left _ hk)))))
                have hM1 := hptz _ (fun kb hk => hA.at_.rok kb (List.mem_append_left _ hk))
                refine callB hA [] on (ldiv_any w90 w90.heap.size Al LN cl Az LN cz (dvL b (finL b ys 8)) (dvL b (finL b ys 8)) hL1 hM1 (Nat.le_refl _)) (by kernel_rfl) fun w91 hb91 hA => ?_
                refine revals hA (rc 209 (show .bool (decide ((dvL b (finL b ys 8)) = (dvL b (finL b ys 8)))) = .bool true by rw [decide_eq_true rfl]) rn) (by kernel_rfl) fun hA => ?_
                refine runS hA 8 ([.g true, .g true, .g true] ++ List.replicate 6 (.k 3) ++ [.g true] ++ List.replicate 6 (.k 4)) xn (oc (rfl : Value.bool true = .bool true) (oc (rfl : Value.bool true = .bool true) (oc (rfl : Value.bool true = .bool true) (oc (rfl : Value.bool true = .bool true) on)))) (by kernel_rfl) fun w92 hA => ?_
                refine opv (v := .bool true) hA [] on (s := cmpSem .eql 47 (.tmp 216) (.tmp 217) (.agg #[.int .i64 a.inn, .int .i64 a.back, .int .i64 a.duty, .int .i64 a.paid, .int .i64 a.kept, .int .i64 a.over]) (.agg #[.int .i64 a.inn, .int .i64 a.back, .int .i64 a.duty, .int .i64 a.paid, .int .i64 a.kept, .int .i64 a.over])) (by kernel_rfl) (cmp_flat (n := 6) false (by kernel_rfl) _ (by kernel_rfl) (fun i hi => by match i, hi with | 0, _ => exact ⟨_, _, _, rfl, rfl⟩ | 1, _ => exact ⟨_, _, _, rfl, rfl⟩ | 2, _ => exact ⟨_, _, _, rfl, rfl⟩ | 3, _ => exact ⟨_, _, _, rfl, rfl⟩ | 4, _ => exact ⟨_, _, _, rfl, rfl⟩ | 5, _ => exact ⟨_, _, _, rfl, rfl⟩) (True) (⟨fun _ => trivial, fun _ => rfl⟩) (by kernel_rfl)) fun hA => ?_
                refine runS hA 2 [] xn on (by kernel_rfl) fun w93 hA => ?_
                refine callB hA [] on (Works_any w93) (by kernel_rfl) fun w94 hb94 hA => ?_
                refine runS hA 5 [] xn on (by kernel_rfl) fun w95 hA => ?_
                exact ret (v := .bool true) hA [] (by kernel_rfl) ⟨rfl, hA.below⟩
              case pos =>
                by_cases hqi : q = i
                case pos =>
                  have hqj : q ≠ j := by omega
                  have hpq : (b.bets[q]?.getD noBet) = (b.bets[i]?.getD noBet) := by rw [hqi]
                  have hwq : IntKind.i64.wrap ((b.bets[q]?.getD noBet).units + (b.bets[j]?.getD noBet).units) = (b.bets[q]?.getD noBet).units + (b.bets[j]?.getD noBet).units := by rw [hpq]; exact hwu
                  refine runS hA 41 [.k 0, .b true, .k 0, .i, .x (.int .i64 ((b.bets[q]?.getD noBet).first)), .x (.int .i64 ((b.bets[q]?.getD noBet).second)), .x (.int .i64 ((b.bets[q]?.getD noBet).units)), .k 7, .k 7, .k 7, .b true, .k 7, .k 6] (xc (a := ⟨b1, off + q * 3, none⟩) ⟨hlb1, (hcb q (by omega)).1⟩ (xc (a := ⟨b1, off + q * 3 + 1, none⟩) ⟨hlb1, (hcb q (by omega)).2.1⟩ (xc (a := ⟨b1, off + q * 3 + 2, none⟩) ⟨hlb1, (hcb q (by omega)).2.2⟩ xn))) (oc (dec_t (show (((q : Int) : Int) < (n : Int)) by omega)) (oc (show (0 : Int) ≤ ((q : Int) : Int) ∧ ((q : Int) : Int) < (n : Int) by omega) (oc (eq_t (a := (q : Int)) (b := (i : Int)) (by omega)) on))) (by kernel_rfl) fun w85 hA => ?_
                  refine revals hA (rc 182 (show .int .i64 (IntKind.i64.wrap (((b.bets[q]?.getD noBet).units) + ((b.bets[j]?.getD noBet).units))) = .int .i64 ((b.bets[q]?.getD noBet).units + (b.bets[j]?.getD noBet).units) by rw [hwq]) rn) (by kernel_rfl) fun hA => ?_
                  refine runS hA 17 [.k 7, .b true, .k 1, .k 7, .k 7, .k 7] xn (oc (ne_t (a := (q : Int)) (b := (j : Int)) (by omega)) on) (by kernel_rfl) fun w86 hA => ?_
                  have hob := hA.at_.ok ⟨wr.heap.size + 1, .cells #[.int .i64 ((b.bets[q]?.getD noBet).first), .int .i64 ((b.bets[q]?.getD noBet).second), .int .i64 ((b.bets[q]?.getD noBet).units + (b.bets[j]?.getD noBet).units)] 53 (0, 0)⟩ (List.mem_of_getElem? (i := 8) (by kernel_rfl))
                  have hy0 := cell_of_obj (a := ⟨wr.heap.size + 1, 0, none⟩) hob rfl rfl
                  have hy1 := cell_of_obj (a := ⟨wr.heap.size + 1, 1, none⟩) hob rfl rfl
                  have hy2 := cell_of_obj (a := ⟨wr.heap.size + 1, 2, none⟩) hob rfl rfl
                  have hst : (jnL b.bets i j (q + 1)) = (jnL b.bets i j q) ++ [⟨(b.bets[q]?.getD noBet).first, (b.bets[q]?.getD noBet).second, (b.bets[q]?.getD noBet).units + (b.bets[j]?.getD noBet).units⟩] := by rw [jnL]; unfold jn1; rw [if_neg hqj, if_pos hqi]
                  refine appES (t := 22) (e := 53) (ty := 22) (z := .agg #[.int .i64 0, .int .i64 0, .int .i64 0]) (size := 3) (bytes := 24) (v := .slice Av (jnL b.bets i j q).length cv) (n := (jnL b.bets i j q).length) (m := 1) (cp := 1) (A := some ⟨wr.heap.size + 1, 0, none⟩) (encB [⟨(b.bets[q]?.getD noBet).first, (b.bets[q]?.getD noBet).second, (b.bets[q]?.getD noBet).units + (b.bets[j]?.getD noBet).units⟩]) hA hrq (by kernel_rfl) rfl (fun _ => ⟨_, rfl, fun p u hu => by match p, hu with | 0, hu => cases hu; exact hy0 | 1, hu => cases hu; exact hy1 | 2, hu => cases hu; exact hy2⟩) rfl (by omega) (by omega) (by omega) fun g2 c2' w87 ob2q hr2q hA => ?_
                  have hle : (jnL b.bets i j (q + 1)).length = (jnL b.bets i j q).length + 1 := by rw [hst, List.length_append]; rfl
                  refine runS hA 10 [.k 1] xn on (by kernel_rfl) fun w88 hA => ?_
                  have hrk2 : RowV 53 3 (.slice (some ⟨g2, 0, none⟩) (jnL b.bets i j (q + 1)).length c2') (jnL b.bets i j (q + 1)).length (encB (jnL b.bets i j (q + 1))) ob2q := by rw [hle, hst, encB_app]; exact hr2q
                  refine revals hA (rc 26 (wr64 (x := (q : Int) + 1) (y := ((q + 1 : Nat) : Int)) (by omega) (by omega)) rn) (by kernel_rfl) fun hA => ?_
                  have hAk9 : At w w88 [⟨w.heap.size, .cells #[.int .i64 b.kind, .int .i64 b.runners, .slice (some ⟨b1, off, none⟩) n c, .slice A2 m c2, .bool b.fav, .int .i64 b.car, .int .i64 b.dut, .int .i64 b.stp] 25 (0, 0)⟩, ⟨w6.heap.size, .cells #[.int .i64 b.kind, .int .i64 b.runners, .slice (some ⟨g2, 0, none⟩) ((jnL b.bets i j q).length + 1) c2', .slice A2 m c2, .bool b.fav, .int .i64 b.car, .int .i64 b.dut, .int .i64 b.stp] 25 (0, 0)⟩, ⟨w6.heap.size + 1, .cells #[] 53 (0, 0)⟩, ⟨w18.heap.size, .cells #[.int .i64 a.inn, .int .i64 a.back, .int .i64 a.duty, .int .i64 a.paid, .int .i64 a.kept, .int .i64 a.over] 47 (0, 0)⟩, ⟨w20.heap.size, .cells #[.int .i64 a.inn, .int .i64 a.back, .int .i64 a.duty, .int .i64 a.paid, .int .i64 a.kept, .int .i64 a.over] 47 (0, 0)⟩, ⟨bPQ10, .cells #[.int .i64 ((b.bets[i]?.getD noBet).first), .int .i64 ((b.bets[i]?.getD noBet).second), .int .i64 ((b.bets[i]?.getD noBet).units)] 53 (0, 0)⟩, ⟨bPQ11, .cells #[.int .i64 ((b.bets[j]?.getD noBet).first), .int .i64 ((b.bets[j]?.getD noBet).second), .int .i64 ((b.bets[j]?.getD noBet).units)] 53 (0, 0)⟩, ⟨wr.heap.size, .cells #[.int .i64 ((b.bets[q]?.getD noBet).first), .int .i64 ((b.bets[q]?.getD noBet).second), .int .i64 ((b.bets[q]?.getD noBet).units + (b.bets[j]?.getD noBet).units)] 53 (0, 0)⟩, ⟨wr.heap.size + 1, .cells #[.int .i64 ((b.bets[q]?.getD noBet).first), .int .i64 ((b.bets[q]?.getD noBet).second), .int .i64 ((b.bets[q]?.getD noBet).units + (b.bets[j]?.getD noBet).units)] 53 (0, 0)⟩] _ w88.heap.size := (hA.atK [⟨w.heap.size, .cells #[.int .i64 b.kind, .int .i64 b.runners, .slice (some ⟨b1, off, none⟩) n c, .slice A2 m c2, .bool b.fav, .int .i64 b.car, .int .i64 b.dut, .int .i64 b.stp] 25 (0, 0)⟩, ⟨w6.heap.size, .cells #[.int .i64 b.kind, .int .i64 b.runners, .slice (some ⟨g2, 0, none⟩) ((jnL b.bets i j q).length + 1) c2', .slice A2 m c2, .bool b.fav, .int .i64 b.car, .int .i64 b.dut, .int .i64 b.stp] 25 (0, 0)⟩, ⟨w6.heap.size + 1, .cells #[] 53 (0, 0)⟩, ⟨w18.heap.size, .cells #[.int .i64 a.inn, .int .i64 a.back, .int .i64 a.duty, .int .i64 a.paid, .int .i64 a.kept, .int .i64 a.over] 47 (0, 0)⟩, ⟨w20.heap.size, .cells #[.int .i64 a.inn, .int .i64 a.back, .int .i64 a.duty, .int .i64 a.paid, .int .i64 a.kept, .int .i64 a.over] 47 (0, 0)⟩, ⟨bPQ10, .cells #[.int .i64 ((b.bets[i]?.getD noBet).first), .int .i64 ((b.bets[i]?.getD noBet).second), .int .i64 ((b.bets[i]?.getD noBet).units)] 53 (0, 0)⟩, ⟨bPQ11, .cells #[.int .i64 ((b.bets[j]?.getD noBet).first), .int .i64 ((b.bets[j]?.getD noBet).second), .int .i64 ((b.bets[j]?.getD noBet).units)] 53 (0, 0)⟩, ⟨wr.heap.size, .cells #[.int .i64 ((b.bets[q]?.getD noBet).first), .int .i64 ((b.bets[q]?.getD noBet).second), .int .i64 ((b.bets[q]?.getD noBet).units + (b.bets[j]?.getD noBet).units)] 53 (0, 0)⟩, ⟨wr.heap.size + 1, .cells #[.int .i64 ((b.bets[q]?.getD noBet).first), .int .i64 ((b.bets[q]?.getD noBet).second), .int .i64 ((b.bets[q]?.getD noBet).units + (b.bets[j]?.getD noBet).units)] 53 (0, 0)⟩] (by kernel_rfl)).resize
                  rw [← hle] at hAk9
                  refine reknow ⟨[⟨w.heap.size, .cells #[.int .i64 b.kind, .int .i64 b.runners, .slice (some ⟨b1, off, none⟩) n c, .slice A2 m c2, .bool b.fav, .int .i64 b.car, .int .i64 b.dut, .int .i64 b.stp] 25 (0, 0)⟩, ⟨w6.heap.size, .cells #[.int .i64 b.kind, .int .i64 b.runners, .slice (some ⟨g2, 0, none⟩) ((jnL b.bets i j (q + 1)).length) c2', .slice A2 m c2, .bool b.fav, .int .i64 b.car, .int .i64 b.dut, .int .i64 b.stp] 25 (0, 0)⟩, ⟨w6.heap.size + 1, .cells #[] 53 (0, 0)⟩, ⟨w18.heap.size, .cells #[.int .i64 a.inn, .int .i64 a.back, .int .i64 a.duty, .int .i64 a.paid, .int .i64 a.kept, .int .i64 a.over] 47 (0, 0)⟩, ⟨w20.heap.size, .cells #[.int .i64 a.inn, .int .i64 a.back, .int .i64 a.duty, .int .i64 a.paid, .int .i64 a.kept, .int .i64 a.over] 47 (0, 0)⟩, ⟨bPQ10, .cells #[.int .i64 ((b.bets[i]?.getD noBet).first), .int .i64 ((b.bets[i]?.getD noBet).second), .int .i64 ((b.bets[i]?.getD noBet).units)] 53 (0, 0)⟩, ⟨bPQ11, .cells #[.int .i64 ((b.bets[j]?.getD noBet).first), .int .i64 ((b.bets[j]?.getD noBet).second), .int .i64 ((b.bets[j]?.getD noBet).units)] 53 (0, 0)⟩, ⟨wr.heap.size, .cells #[.int .i64 ((b.bets[q]?.getD noBet).first), .int .i64 ((b.bets[q]?.getD noBet).second), .int .i64 ((b.bets[q]?.getD noBet).units + (b.bets[j]?.getD noBet).units)] 53 (0, 0)⟩, ⟨wr.heap.size + 1, .cells #[.int .i64 ((b.bets[q]?.getD noBet).first), .int .i64 ((b.bets[q]?.getD noBet).second), .int .i64 ((b.bets[q]?.getD noBet).units + (b.bets[j]?.getD noBet).units)] 53 (0, 0)⟩], w88.heap.size, [], [], [], [], []⟩ hAk9 (Nat.zero_le _) fun hA => ?_
                  exact again hJ (n - (q + 1)) (⟨q + 1, some ⟨g2, 0, none⟩, c2', ob2q⟩) [true, true, true, true, true, true, true] hA (by omega) (by kernel_rfl) (⟨by omega, rfl, hrk2⟩)
                case neg =>
                  by_cases hqj : q = j
                  case pos =>
                    refine runS hA 53 [.k 0, .b true, .k 0, .i, .x (.int .i64 ((b.bets[q]?.getD noBet).first)), .x (.int .i64 ((b.bets[q]?.getD noBet).second)), .x (.int .i64 ((b.bets[q]?.getD noBet).units)), .k 7, .k 7, .k 7, .b false, .b false] (xc (a := ⟨b1, off + q * 3, none⟩) ⟨hlb1, (hcb q (by omega)).1⟩ (xc (a := ⟨b1, off + q * 3 + 1, none⟩) ⟨hlb1, (hcb q (by omega)).2.1⟩ (xc (a := ⟨b1, off + q * 3 + 2, none⟩) ⟨hlb1, (hcb q (by omega)).2.2⟩ xn))) (oc (dec_t (show (((q : Int) : Int) < (n : Int)) by omega)) (oc (show (0 : Int) ≤ ((q : Int) : Int) ∧ ((q : Int) : Int) < (n : Int) by omega) (oc (eq_f (a := (q : Int)) (b := (i : Int)) (by omega)) (oc (ne_f (a := (q : Int)) (b := (j : Int)) (by omega)) on)))) (by kernel_rfl) fun w85 hA => ?_
                    have hst : (jnL b.bets i j (q + 1)) = (jnL b.bets i j q) := by rw [jnL]; unfold jn1; rw [if_pos hqj, List.append_nil]
                    have hle : (jnL b.bets i j (q + 1)).length = (jnL b.bets i j q).length := by rw [hst]
                    have hrk2 : RowV 53 3 (.slice Av (jnL b.bets i j (q + 1)).length cv) (jnL b.bets i j (q + 1)).length (encB (jnL b.bets i j (q + 1))) ov := by rw [hst]; exact hrq
                    refine revals hA (rc 26 (wr64 (x := (q : Int) + 1) (y := ((q + 1 : Nat) : Int)) (by omega) (by omega)) rn) (by kernel_rfl) fun hA => ?_
                    have hAk9 : At w w85 [⟨w.heap.size, .cells #[.int .i64 b.kind, .int .i64 b.runners, .slice (some ⟨b1, off, none⟩) n c, .slice A2 m c2, .bool b.fav, .int .i64 b.car, .int .i64 b.dut, .int .i64 b.stp] 25 (0, 0)⟩, ⟨w6.heap.size, .cells #[.int .i64 b.kind, .int .i64 b.runners, .slice Av ((jnL b.bets i j q).length) cv, .slice A2 m c2, .bool b.fav, .int .i64 b.car, .int .i64 b.dut, .int .i64 b.stp] 25 (0, 0)⟩, ⟨w6.heap.size + 1, .cells #[] 53 (0, 0)⟩, ⟨w18.heap.size, .cells #[.int .i64 a.inn, .int .i64 a.back, .int .i64 a.duty, .int .i64 a.paid, .int .i64 a.kept, .int .i64 a.over] 47 (0, 0)⟩, ⟨w20.heap.size, .cells #[.int .i64 a.inn, .int .i64 a.back, .int .i64 a.duty, .int .i64 a.paid, .int .i64 a.kept, .int .i64 a.over] 47 (0, 0)⟩, ⟨bPQ10, .cells #[.int .i64 ((b.bets[i]?.getD noBet).first), .int .i64 ((b.bets[i]?.getD noBet).second), .int .i64 ((b.bets[i]?.getD noBet).units)] 53 (0, 0)⟩, ⟨bPQ11, .cells #[.int .i64 ((b.bets[j]?.getD noBet).first), .int .i64 ((b.bets[j]?.getD noBet).second), .int .i64 ((b.bets[j]?.getD noBet).units)] 53 (0, 0)⟩, ⟨wr.heap.size, .cells #[.int .i64 ((b.bets[q]?.getD noBet).first), .int .i64 ((b.bets[q]?.getD noBet).second), .int .i64 ((b.bets[q]?.getD noBet).units)] 53 (0, 0)⟩] _ w85.heap.size := (hA.atK [⟨w.heap.size, .cells #[.int .i64 b.kind, .int .i64 b.runners, .slice (some ⟨b1, off, none⟩) n c, .slice A2 m c2, .bool b.fav, .int .i64 b.car, .int .i64 b.dut, .int .i64 b.stp] 25 (0, 0)⟩, ⟨w6.heap.size, .cells #[.int .i64 b.kind, .int .i64 b.runners, .slice Av ((jnL b.bets i j q).length) cv, .slice A2 m c2, .bool b.fav, .int .i64 b.car, .int .i64 b.dut, .int .i64 b.stp] 25 (0, 0)⟩, ⟨w6.heap.size + 1, .cells #[] 53 (0, 0)⟩, ⟨w18.heap.size, .cells #[.int .i64 a.inn, .int .i64 a.back, .int .i64 a.duty, .int .i64 a.paid, .int .i64 a.kept, .int .i64 a.over] 47 (0, 0)⟩, ⟨w20.heap.size, .cells #[.int .i64 a.inn, .int .i64 a.back, .int .i64 a.duty, .int .i64 a.paid, .int .i64 a.kept, .int .i64 a.over] 47 (0, 0)⟩, ⟨bPQ10, .cells #[.int .i64 ((b.bets[i]?.getD noBet).first), .int .i64 ((b.bets[i]?.getD noBet).second), .int .i64 ((b.bets[i]?.getD noBet).units)] 53 (0, 0)⟩, ⟨bPQ11, .cells #[.int .i64 ((b.bets[j]?.getD noBet).first), .int .i64 ((b.bets[j]?.getD noBet).second), .int .i64 ((b.bets[j]?.getD noBet).units)] 53 (0, 0)⟩, ⟨wr.heap.size, .cells #[.int .i64 ((b.bets[q]?.getD noBet).first), .int .i64 ((b.bets[q]?.getD noBet).second), .int .i64 ((b.bets[q]?.getD noBet).units)] 53 (0, 0)⟩] (by kernel_rfl)).resize
                    rw [← hle] at hAk9
                    refine reknow ⟨[⟨w.heap.size, .cells #[.int .i64 b.kind, .int .i64 b.runners, .slice (some ⟨b1, off, none⟩) n c, .slice A2 m c2, .bool b.fav, .int .i64 b.car, .int .i64 b.dut, .int .i64 b.stp] 25 (0, 0)⟩, ⟨w6.heap.size, .cells #[.int .i64 b.kind, .int .i64 b.runners, .slice Av ((jnL b.bets i j (q + 1)).length) cv, .slice A2 m c2, .bool b.fav, .int .i64 b.car, .int .i64 b.dut, .int .i64 b.stp] 25 (0, 0)⟩, ⟨w6.heap.size + 1, .cells #[] 53 (0, 0)⟩, ⟨w18.heap.size, .cells #[.int .i64 a.inn, .int .i64 a.back, .int .i64 a.duty, .int .i64 a.paid, .int .i64 a.kept, .int .i64 a.over] 47 (0, 0)⟩, ⟨w20.heap.size, .cells #[.int .i64 a.inn, .int .i64 a.back, .int .i64 a.duty, .int .i64 a.paid, .int .i64 a.kept, .int .i64 a.over] 47 (0, 0)⟩, ⟨bPQ10, .cells #[.int .i64 ((b.bets[i]?.getD noBet).first), .int .i64 ((b.bets[i]?.getD noBet).second), .int .i64 ((b.bets[i]?.getD noBet).units)] 53 (0, 0)⟩, ⟨bPQ11, .cells #[.int .i64 ((b.bets[j]?.getD noBet).first), .int .i64 ((b.bets[j]?.getD noBet).second), .int .i64 ((b.bets[j]?.getD noBet).units)] 53 (0, 0)⟩, ⟨wr.heap.size, .cells #[.int .i64 ((b.bets[q]?.getD noBet).first), .int .i64 ((b.bets[q]?.getD noBet).second), .int .i64 ((b.bets[q]?.getD noBet).units)] 53 (0, 0)⟩], w85.heap.size, [], [], [], [], []⟩ hAk9 (Nat.zero_le _) fun hA => ?_
                    exact again hJ (n - (q + 1)) (⟨q + 1, Av, cv, ov⟩) [true, true, true, true, true, true, true] hA (by omega) (by kernel_rfl) (⟨by omega, rfl, hrk2⟩)
                  case neg =>
                    refine runS hA 50 [.k 0, .b true, .k 0, .i, .x (.int .i64 ((b.bets[q]?.getD noBet).first)), .x (.int .i64 ((b.bets[q]?.getD noBet).second)), .x (.int .i64 ((b.bets[q]?.getD noBet).units)), .k 7, .k 7, .k 7, .b false, .b true, .k 1, .k 7, .k 7, .k 7] (xc (a := ⟨b1, off + q * 3, none⟩) ⟨hlb1, (hcb q (by omega)).1⟩ (xc (a := ⟨b1, off + q * 3 + 1, none⟩) ⟨hlb1, (hcb q (by omega)).2.1⟩ (xc (a := ⟨b1, off + q * 3 + 2, none⟩) ⟨hlb1, (hcb q (by omega)).2.2⟩ xn))) (oc (dec_t (show (((q : Int) : Int) < (n : Int)) by omega)) (oc (show (0 : Int) ≤ ((q : Int) : Int) ∧ ((q : Int) : Int) < (n : Int) by omega) (oc (eq_f (a := (q : Int)) (b := (i : Int)) (by omega)) (oc (ne_t (a := (q : Int)) (b := (j : Int)) (by omega)) on)))) (by kernel_rfl) fun w85 hA => ?_
                    have hob := hA.at_.ok ⟨wr.heap.size + 1, .cells #[.int .i64 ((b.bets[q]?.getD noBet).first), .int .i64 ((b.bets[q]?.getD noBet).second), .int .i64 ((b.bets[q]?.getD noBet).units)] 53 (0, 0)⟩ (List.mem_of_getElem? (i := 8) (by kernel_rfl))
                    have hy0 := cell_of_obj (a := ⟨wr.heap.size + 1, 0, none⟩) hob rfl rfl
                    have hy1 := cell_of_obj (a := ⟨wr.heap.size + 1, 1, none⟩) hob rfl rfl
                    have hy2 := cell_of_obj (a := ⟨wr.heap.size + 1, 2, none⟩) hob rfl rfl
                    have hst : (jnL b.bets i j (q + 1)) = (jnL b.bets i j q) ++ [(b.bets[q]?.getD noBet)] := by rw [jnL]; unfold jn1; rw [if_neg hqj, if_neg hqi]
                    refine appES (t := 22) (e := 53) (ty := 22) (z := .agg #[.int .i64 0, .int .i64 0, .int .i64 0]) (size := 3) (bytes := 24) (v := .slice Av (jnL b.bets i j q).length cv) (n := (jnL b.bets i j q).length) (m := 1) (cp := 1) (A := some ⟨wr.heap.size + 1, 0, none⟩) (encB [(b.bets[q]?.getD noBet)]) hA hrq (by kernel_rfl) rfl (fun _ => ⟨_, rfl, fun p u hu => by match p, hu with | 0, hu => cases hu; exact hy0 | 1, hu => cases hu; exact hy1 | 2, hu => cases hu; exact hy2⟩) rfl (by omega) (by omega) (by omega) fun g2 c2' w86 ob2q hr2q hA => ?_
                    have hle : (jnL b.bets i j (q + 1)).length = (jnL b.bets i j q).length + 1 := by rw [hst, List.length_append]; rfl
                    refine runS hA 10 [.k 1] xn on (by kernel_rfl) fun w87 hA => ?_
                    have hrk2 : RowV 53 3 (.slice (some ⟨g2, 0, none⟩) (jnL b.bets i j (q + 1)).length c2') (jnL b.bets i j (q + 1)).length (encB (jnL b.bets i j (q + 1))) ob2q := by rw [hle, hst, encB_app]; exact hr2q
                    refine revals hA (rc 26 (wr64 (x := (q : Int) + 1) (y := ((q + 1 : Nat) : Int)) (by omega) (by omega)) rn) (by kernel_rfl) fun hA => ?_
                    have hAk9 : At w w87 [⟨w.heap.size, .cells #[.int .i64 b.kind, .int .i64 b.runners, .slice (some ⟨b1, off, none⟩) n c, .slice A2 m c2, .bool b.fav, .int .i64 b.car, .int .i64 b.dut, .int .i64 b.stp] 25 (0, 0)⟩, ⟨w6.heap.size, .cells #[.int .i64 b.kind, .int .i64 b.runners, .slice (some ⟨g2, 0, none⟩) ((jnL b.bets i j q).length + 1) c2', .slice A2 m c2, .bool b.fav, .int .i64 b.car, .int .i64 b.dut, .int .i64 b.stp] 25 (0, 0)⟩, ⟨w6.heap.size + 1, .cells #[] 53 (0, 0)⟩, ⟨w18.heap.size, .cells #[.int .i64 a.inn, .int .i64 a.back, .int .i64 a.duty, .int .i64 a.paid, .int .i64 a.kept, .int .i64 a.over] 47 (0, 0)⟩, ⟨w20.heap.size, .cells #[.int .i64 a.inn, .int .i64 a.back, .int .i64 a.duty, .int .i64 a.paid, .int .i64 a.kept, .int .i64 a.over] 47 (0, 0)⟩, ⟨bPQ10, .cells #[.int .i64 ((b.bets[i]?.getD noBet).first), .int .i64 ((b.bets[i]?.getD noBet).second), .int .i64 ((b.bets[i]?.getD noBet).units)] 53 (0, 0)⟩, ⟨bPQ11, .cells #[.int .i64 ((b.bets[j]?.getD noBet).first), .int .i64 ((b.bets[j]?.getD noBet).second), .int .i64 ((b.bets[j]?.getD noBet).units)] 53 (0, 0)⟩, ⟨wr.heap.size, .cells #[.int .i64 ((b.bets[q]?.getD noBet).first), .int .i64 ((b.bets[q]?.getD noBet).second), .int .i64 ((b.bets[q]?.getD noBet).units)] 53 (0, 0)⟩, ⟨wr.heap.size + 1, .cells #[.int .i64 ((b.bets[q]?.getD noBet).first), .int .i64 ((b.bets[q]?.getD noBet).second), .int .i64 ((b.bets[q]?.getD noBet).units)] 53 (0, 0)⟩] _ w87.heap.size := (hA.atK [⟨w.heap.size, .cells #[.int .i64 b.kind, .int .i64 b.runners, .slice (some ⟨b1, off, none⟩) n c, .slice A2 m c2, .bool b.fav, .int .i64 b.car, .int .i64 b.dut, .int .i64 b.stp] 25 (0, 0)⟩, ⟨w6.heap.size, .cells #[.int .i64 b.kind, .int .i64 b.runners, .slice (some ⟨g2, 0, none⟩) ((jnL b.bets i j q).length + 1) c2', .slice A2 m c2, .bool b.fav, .int .i64 b.car, .int .i64 b.dut, .int .i64 b.stp] 25 (0, 0)⟩, ⟨w6.heap.size + 1, .cells #[] 53 (0, 0)⟩, ⟨w18.heap.size, .cells #[.int .i64 a.inn, .int .i64 a.back, .int .i64 a.duty, .int .i64 a.paid, .int .i64 a.kept, .int .i64 a.over] 47 (0, 0)⟩, ⟨w20.heap.size, .cells #[.int .i64 a.inn, .int .i64 a.back, .int .i64 a.duty, .int .i64 a.paid, .int .i64 a.kept, .int .i64 a.over] 47 (0, 0)⟩, ⟨bPQ10, .cells #[.int .i64 ((b.bets[i]?.getD noBet).first), .int .i64 ((b.bets[i]?.getD noBet).second), .int .i64 ((b.bets[i]?.getD noBet).units)] 53 (0, 0)⟩, ⟨bPQ11, .cells #[.int .i64 ((b.bets[j]?.getD noBet).first), .int .i64 ((b.bets[j]?.getD noBet).second), .int .i64 ((b.bets[j]?.getD noBet).units)] 53 (0, 0)⟩, ⟨wr.heap.size, .cells #[.int .i64 ((b.bets[q]?.getD noBet).first), .int .i64 ((b.bets[q]?.getD noBet).second), .int .i64 ((b.bets[q]?.getD noBet).units)] 53 (0, 0)⟩, ⟨wr.heap.size + 1, .cells #[.int .i64 ((b.bets[q]?.getD noBet).first), .int .i64 ((b.bets[q]?.getD noBet).second), .int .i64 ((b.bets[q]?.getD noBet).units)] 53 (0, 0)⟩] (by kernel_rfl)).resize
                    rw [← hle] at hAk9
                    refine reknow ⟨[⟨w.heap.size, .cells #[.int .i64 b.kind, .int .i64 b.runners, .slice (some ⟨b1, off, none⟩) n c, .slice A2 m c2, .bool b.fav, .int .i64 b.car, .int .i64 b.dut, .int .i64 b.stp] 25 (0, 0)⟩, ⟨w6.heap.size, .cells #[.int .i64 b.kind, .int .i64 b.runners, .slice (some ⟨g2, 0, none⟩) ((jnL b.bets i j (q + 1)).length) c2', .slice A2 m c2, .bool b.fav, .int .i64 b.car, .int .i64 b.dut, .int .i64 b.stp] 25 (0, 0)⟩, ⟨w6.heap.size + 1, .cells #[] 53 (0, 0)⟩, ⟨w18.heap.size, .cells #[.int .i64 a.inn, .int .i64 a.back, .int .i64 a.duty, .int .i64 a.paid, .int .i64 a.kept, .int .i64 a.over] 47 (0, 0)⟩, ⟨w20.heap.size, .cells #[.int .i64 a.inn, .int .i64 a.back, .int .i64 a.duty, .int .i64 a.paid, .int .i64 a.kept, .int .i64 a.over] 47 (0, 0)⟩, ⟨bPQ10, .cells #[.int .i64 ((b.bets[i]?.getD noBet).first), .int .i64 ((b.bets[i]?.getD noBet).second), .int .i64 ((b.bets[i]?.getD noBet).units)] 53 (0, 0)⟩, ⟨bPQ11, .cells #[.int .i64 ((b.bets[j]?.getD noBet).first), .int .i64 ((b.bets[j]?.getD noBet).second), .int .i64 ((b.bets[j]?.getD noBet).units)] 53 (0, 0)⟩, ⟨wr.heap.size, .cells #[.int .i64 ((b.bets[q]?.getD noBet).first), .int .i64 ((b.bets[q]?.getD noBet).second), .int .i64 ((b.bets[q]?.getD noBet).units)] 53 (0, 0)⟩, ⟨wr.heap.size + 1, .cells #[.int .i64 ((b.bets[q]?.getD noBet).first), .int .i64 ((b.bets[q]?.getD noBet).second), .int .i64 ((b.bets[q]?.getD noBet).units)] 53 (0, 0)⟩], w87.heap.size, [], [], [], [], []⟩ hAk9 (Nat.zero_le _) fun hA => ?_
                    exact again hJ (n - (q + 1)) (⟨q + 1, some ⟨g2, 0, none⟩, c2', ob2q⟩) [true, true, true, true, true, true, true] hA (by omega) (by kernel_rfl) (⟨by omega, rfl, hrk2⟩)
theorem PoolJoined_any (w : World) (B : Nat) (b : Bk) (A : Option Addr) (n c : Nat) (A2 : Option Addr) (m c2 : Nat) (A3 : Option Addr) (ny cy : Nat) (ys : List Int) (o1 o2 o3 : Int) (h : BkAt w B b A n c A2 m c2) (hy : U8At w B A3 ny ys) (ho1 : 0 ≤ o1 ∧ o1 ≤ 255) (ho2 : 0 ≤ o2 ∧ o2 ≤ 255) (ho3 : 0 ≤ o3 ∧ o3 ≤ 255) (hB : B ≤ w.heap.size) : Calls Try.prog 7 #[bkV b A n c A2 m c2, .slice A3 ny cy, .int .u8 o1, .int .u8 o2, .int .u8 o3] w fun e w' => e = .returned (.bool true) ∧ Below w.heap.size w w' := by
  by_cases hn0 : n = 0
  · exact PoolJoined_none w B b A n c A2 m c2 A3 ny cy ys o1 o2 o3 h hy ho1 ho2 ho3 hB hn0
  · obtain ⟨b1, off, rfl, -⟩ := h.bets.2.2 (by omega)
    exact PoolJoined_some w B b b1 off n c A2 m c2 A3 ny cy ys o1 o2 o3 h hy ho1 ho2 ho3 hB hn0
end Go.Proofs.Ytbahiemjaomdcaa

/- PoolJoined answers true whatever the book, the numbers of the finish, the two bets, and the bet from which the others come; the arguments read behind the call as they did. No condition. -/
namespace Go.Proofs.Ytbahiemjaomdcaa.poolJoined
open Go.ChangeShapes Go.WideShapes Go.ChangeAt Go.RowKit

theorem own : ownKnob Try.prog.godebug = none := by kernel_rfl
theorem laidOut : laidOutB Try.prog = true := by kernel_rfl
theorem cellsInt : Try.prog.cellsOf 3 = 1 := by kernel_rfl
/-- A slice of numbers among the arguments. -/
theorem ints_arg {H : Type} {enc : TypeId × Value → H} {W : World} {fuel : Nat} {v : Value} {x : DataW H × List MemPlace} (h : DataW.trod enc Try.prog W 0 (fun _ => true) true fuel 23 [v] = some x) :
    ∃ A n c xs, v = .slice A n c ∧ n ≤ c ∧ IntsAt W W.heap.size A n xs := by
  rcases open_ints Try.underlying23 Try.underlying3 cellsInt h with ⟨hcs, -⟩ | ⟨a, n, c, zs, hcs, -, hl, hm, hz, -, hcell, -⟩
  · obtain rfl : v = .slice none 0 0 := by simpa using hcs
    exact ⟨none, 0, 0, [], rfl, Nat.le_refl _, IntsAt.nil⟩
  · obtain rfl : v = .slice (some a) n c := by simpa using hcs
    have hz : zs.length = c := by simpa using hz
    refine ⟨some a, n, c, zs.take n, rfl, hl, by rw [List.length_take]; omega, by simp only [maxLen] at hm; omega, fun h0 => ?_⟩
    obtain ⟨b, off, rfl, hc⟩ := Go.ints_at hcell (by omega)
    refine ⟨b, off, rfl, ?_, fun j hj => ?_⟩
    · rcases Nat.lt_or_ge b W.heap.size with hb | hb
      · exact hb
      · have := hc 0 (by omega)
        simp [World.cell?, Array.getElem?_eq_none hb] at this
    · rw [hc j (by omega), List.getElem?_take, if_pos hj, List.getD_eq_getElem?_getD]
theorem cellsI64 : Try.prog.cellsOf 2 = 1 := by kernel_rfl
theorem cellsBool : Try.prog.cellsOf 4 = 1 := by kernel_rfl
theorem cellsBet : Try.prog.cellsOf 53 = 3 := by kernel_rfl
theorem cellsBets : Try.prog.cellsOf 22 = 1 := by kernel_rfl
theorem cellsInts : Try.prog.cellsOf 23 = 1 := by kernel_rfl
theorem cellsBook : Try.prog.cellsOf 25 = 8 := by kernel_rfl
theorem bet_gen {H : Type} {enc : TypeId × Value → H} {P : Program} {W : World} {fuel : Nat} {T I J : TypeId} {f0 f1 f2 : Field} (ht : P.underlying T = some (.struct #[f0, f1, f2])) (hi : P.underlying I = some (.int .i64)) (hj : P.underlying J = some (.int .i64)) (cI : P.cellsOf I = 1) (cJ : P.cellsOf J = 1) (cT : P.cellsOf T = 3)
    (o0 : f0.offset = 0 ∧ f0.type = I) (o1 : f1.offset = 1 ∧ f1.type = I) (o2 : f2.offset = 2 ∧ f2.type = J) {cs : List Value} {x : DataW H × List MemPlace} (h : DataW.trod enc P W 0 (fun _ => true) true fuel T cs = some x) :
    ∃ y : Bet, cs = [.int .i64 y.first, .int .i64 y.second, .int .i64 y.units] := by
  obtain ⟨xs, m, -, -, hl, hn, hf⟩ := Go.DataW.trod_struct ht h
  rw [cT] at hl
  obtain ⟨v0, v1, v2, rfl⟩ : ∃ v0 v1 v2, cs = [v0, v1, v2] := by
    match cs, hl with
    | [a, b, c], _ => exact ⟨a, b, c, rfl⟩
  have g0 := hf 0 f0 rfl
  have g1 := hf 1 f1 rfl
  have g2 := hf 2 f2 rfl
  simp only [List.size_toArray, List.length_cons, List.length_nil] at hn
  rw [List.getElem?_eq_getElem (by omega)] at g0 g1 g2
  rw [o0.1, o0.2, cI] at g0
  rw [o1.1, o1.2, cI] at g1
  rw [o2.1, o2.2, cJ] at g2
  obtain ⟨a, e0, -, -⟩ := Go.DataW.trod_int hi g0
  obtain ⟨b, e1, -, -⟩ := Go.DataW.trod_int hi g1
  obtain ⟨c, e2, -, -⟩ := Go.DataW.trod_int hj g2
  simp at e0 e1 e2
  exact ⟨⟨a, b, c⟩, by rw [e0, e1, e2]⟩
theorem bet_arg {H : Type} {enc : TypeId × Value → H} {W : World} {fuel : Nat} {cs : List Value} {x : DataW H × List MemPlace} (h : DataW.trod enc Try.prog W 0 (fun _ => true) true fuel 53 cs = some x) :
    ∃ y : Bet, cs = [.int .i64 y.first, .int .i64 y.second, .int .i64 y.units] := bet_gen Try.underlying53 Try.underlying3 Try.underlying2 cellsInt cellsI64 cellsBet ⟨rfl, rfl⟩ ⟨rfl, rfl⟩ ⟨rfl, rfl⟩ h
/-- A slice of bets among the arguments. -/
theorem bets_arg {H : Type} {enc : TypeId × Value → H} {W : World} {fuel : Nat} {v : Value} {x : DataW H × List MemPlace} (h : DataW.trod enc Try.prog W 0 (fun _ => true) true fuel 22 [v] = some x) :
    ∃ A n c bs, v = .slice A n c ∧ n ≤ c ∧ BetsAt W W.heap.size A n bs := by
  rcases Go.Deep.open_slice Try.underlying22 h with ⟨hcs, -⟩ | ⟨a, len, cap, m, n', D, Pl, hcs, -, hl, hm, hmm, -, hel⟩
  · obtain rfl : v = .slice none 0 0 := by simpa using hcs
    exact ⟨none, 0, 0, [], rfl, Nat.le_refl _, rfl, by omega, fun h => absurd h (by omega)⟩
  · obtain rfl : v = .slice (some a) len cap := by simpa using hcs
    have hmc : m = cap := by simpa using hmm
    have each : ∀ i, i < len → ∃ y : Bet, W.cell? (a.add (i * 3)) = some (.int .i64 y.first) ∧ W.cell? (a.add (i * 3 + 1)) = some (.int .i64 y.second) ∧ W.cell? (a.add (i * 3 + 2)) = some (.int .i64 y.units) := by
      intro i hi
      obtain ⟨cs', h1, h2⟩ := hel i (by omega)
      obtain ⟨y, rfl⟩ := bet_arg h2
      rw [cellsBet] at h1
      obtain ⟨_, hlen, hcell⟩ := World.cells?_some h1
      have g0 := hcell 0 (by omega)
      have g1 := hcell 1 (by omega)
      have g2 := hcell 2 (by omega)
      rw [Go.Deep.add_add] at g0 g1 g2
      exact ⟨y, by simpa using g0, by simpa using g1, by simpa using g2⟩
    obtain ⟨fx, hfx⟩ := Go.Deep.choose_lt each
    refine ⟨some a, len, cap, (List.range len).map fx, rfl, hl, by simp, by simp only [maxLen] at hm; omega, fun h0 => ?_⟩
    obtain ⟨b, off, spot⟩ := a
    have hc0 := (hfx 0 h0).1
    have hspot : spot = none := by simpa [Addr.add] using World.cell?_spot hc0
    subst hspot
    refine ⟨b, off, rfl, ?_, fun j hj => ?_⟩
    · rcases Nat.lt_or_ge b W.heap.size with hb | hb
      · exact hb
      · simp [World.cell?, Addr.add, Array.getElem?_eq_none hb] at hc0
    · have e := hfx j hj
      rw [Go.WideShapes.add_plain, Go.WideShapes.add_plain, Go.WideShapes.add_plain] at e
      rw [List.getElem?_map, List.getElem?_range hj, Option.map_some, Option.getD_some]
      exact e
theorem book_gen {H : Type} {enc : TypeId × Value → H} {P : Program} {W : World} {fuel : Nat} {T I J S R C : TypeId} {f0 f1 f2 f3 f4 f5 f6 f7 : Field} (ht : P.underlying T = some (.struct #[f0, f1, f2, f3, f4, f5, f6, f7])) (hi : P.underlying I = some (.int .i64)) (hj : P.underlying J = some (.int .i64)) (hb : P.underlying C = some .bool)
    (cI : P.cellsOf I = 1) (cJ : P.cellsOf J = 1) (cS : P.cellsOf S = 1) (cR : P.cellsOf R = 1) (cC : P.cellsOf C = 1) (cT : P.cellsOf T = 8)
    (o0 : f0.offset = 0 ∧ f0.type = I) (o1 : f1.offset = 1 ∧ f1.type = I) (o2 : f2.offset = 2 ∧ f2.type = S) (o3 : f3.offset = 3 ∧ f3.type = R) (o4 : f4.offset = 4 ∧ f4.type = C) (o5 : f5.offset = 5 ∧ f5.type = J) (o6 : f6.offset = 6 ∧ f6.type = J) (o7 : f7.offset = 7 ∧ f7.type = J)
    {cs : Array Value} {x : DataW H × List MemPlace} (h : DataW.trod enc P W 0 (fun _ => true) true fuel T cs.toList = some x) :
    ∃ (a0 a1 : Int) (v2 v3 : Value) (a4 : Bool) (a5 a6 a7 : Int) (q : Nat) (x2 x3 : DataW H × List MemPlace), cs = #[.int .i64 a0, .int .i64 a1, v2, v3, .bool a4, .int .i64 a5, .int .i64 a6, .int .i64 a7] ∧
      DataW.trod enc P W 0 (fun _ => true) true q S [v2] = some x2 ∧ DataW.trod enc P W 0 (fun _ => true) true q R [v3] = some x3 := by
  obtain ⟨xs, q, -, -, hl, hn, hf⟩ := Go.DataW.trod_struct ht h
  rw [cT] at hl
  obtain ⟨v0, v1, v2, v3, v4, v5, v6, v7, hc⟩ : ∃ v0 v1 v2 v3 v4 v5 v6 v7, cs.toList = [v0, v1, v2, v3, v4, v5, v6, v7] := by
    generalize cs.toList = l at hl
    match l, hl with
    | [a, b, c, d, e, f, g, h], _ => exact ⟨a, b, c, d, e, f, g, h, rfl⟩
  rw [hc] at hf
  simp only [List.size_toArray, List.length_cons, List.length_nil] at hn
  have g0 := hf 0 f0 rfl
  have g1 := hf 1 f1 rfl
  have g2 := hf 2 f2 rfl
  have g3 := hf 3 f3 rfl
  have g4 := hf 4 f4 rfl
  have g5 := hf 5 f5 rfl
  have g6 := hf 6 f6 rfl
  have g7 := hf 7 f7 rfl
  rw [List.getElem?_eq_getElem (by omega)] at g0 g1 g2 g3 g4 g5 g6 g7
  rw [o0.1, o0.2, cI] at g0
  rw [o1.1, o1.2, cI] at g1
  rw [o2.1, o2.2, cS] at g2
  rw [o3.1, o3.2, cR] at g3
  rw [o4.1, o4.2, cC] at g4
  rw [o5.1, o5.2, cJ] at g5
  rw [o6.1, o6.2, cJ] at g6
  rw [o7.1, o7.2, cJ] at g7
  obtain ⟨a0, e0, -, -⟩ := Go.DataW.trod_int hi g0
  obtain ⟨a1, e1, -, -⟩ := Go.DataW.trod_int hi g1
  obtain ⟨a4, e4, -⟩ := Go.DataW.trod_bool hb g4
  obtain ⟨a5, e5, -, -⟩ := Go.DataW.trod_int hj g5
  obtain ⟨a6, e6, -, -⟩ := Go.DataW.trod_int hj g6
  obtain ⟨a7, e7, -, -⟩ := Go.DataW.trod_int hj g7
  simp at e0 e1 e4 e5 e6 e7
  refine ⟨a0, a1, v2, v3, a4, a5, a6, a7, q, _, _, ?_, by simpa using g2, by simpa using g3⟩
  apply Array.toList_inj.1
  rw [hc, e0, e1, e4, e5, e6, e7]
/-- A book among the arguments. -/
theorem book_arg {H : Type} {enc : TypeId × Value → H} {W : World} {fuel : Nat} {cs : Array Value} {x : DataW H × List MemPlace} (h : DataW.trod enc Try.prog W 0 (fun _ => true) true fuel 25 cs.toList = some x) :
    ∃ b A n c A2 m c2, cs = bkC b A n c A2 m c2 ∧ BkAt W W.heap.size b A n c A2 m c2 := by
  obtain ⟨a0, a1, v2, v3, a4, a5, a6, a7, q, x2, x3, rfl, f2, f3⟩ := book_gen Try.underlying25 Try.underlying3 Try.underlying2 Try.underlying4 cellsInt cellsI64 cellsBets cellsInts cellsBool cellsBook ⟨rfl, rfl⟩ ⟨rfl, rfl⟩ ⟨rfl, rfl⟩ ⟨rfl, rfl⟩ ⟨rfl, rfl⟩ ⟨rfl, rfl⟩ ⟨rfl, rfl⟩ ⟨rfl, rfl⟩ h
  obtain ⟨A, n, c, bs, rfl, l2, i2⟩ := bets_arg f2
  obtain ⟨A2, m, c2, ss, rfl, l3, i3⟩ := ints_arg f3
  exact ⟨⟨a0, a1, bs, ss, a4, a5, a6, a7⟩, A, n, c, A2, m, c2, rfl, i2, i3, l2, l3⟩
theorem cellsByte : Try.prog.cellsOf 5 = 1 := by kernel_rfl
/-- A slice of bytes among the arguments. -/
theorem bytes_arg {H : Type} {enc : TypeId × Value → H} {W : World} {fuel : Nat} {v : Value} {x : DataW H × List MemPlace} (h : DataW.trod enc Try.prog W 0 (fun _ => true) true fuel 44 [v] = some x) :
    ∃ A n c xs, v = .slice A n c ∧ n ≤ c ∧ U8At W W.heap.size A n xs := by
  rcases open_ints Try.underlying44 Try.underlying5 cellsByte h with ⟨hcs, -⟩ | ⟨a, n, c, zs, hcs, -, hl, hm, hz, -, hcell, hwf⟩
  · obtain rfl : v = .slice none 0 0 := by simpa using hcs
    exact ⟨none, 0, 0, [], rfl, Nat.le_refl _, rfl, by omega, fun h => absurd h (by omega)⟩
  · obtain rfl : v = .slice (some a) n c := by simpa using hcs
    have hz : zs.length = c := by simpa using hz
    refine ⟨some a, n, c, zs.take n, rfl, hl, by rw [List.length_take]; omega, by simp only [maxLen] at hm; omega, fun h0 => ?_⟩
    obtain ⟨b, off, rfl, hc⟩ := Go.ints_at hcell (by omega)
    refine ⟨b, off, rfl, ?_, fun j hj => ⟨?_, ?_⟩⟩
    · rcases Nat.lt_or_ge b W.heap.size with hb | hb
      · exact hb
      · have := hc 0 (by omega)
        simp [World.cell?, Array.getElem?_eq_none hb] at this
    · rw [hc j (by omega), List.getElem?_take, if_pos hj, List.getD_eq_getElem?_getD]
    · rw [List.getElem?_take, if_pos hj]
      exact range_u8 hwf j
theorem trodAll_five {H : Type} {enc : TypeId × Value → H} {P : Program} {w : World} {base : Nat} {spare : Nat → Bool} {held : Bool} {t0 t1 t2 t3 t4 : TypeId} {args : Array Value} {ds : List (DataW H)} {ps : List MemPlace} (h : DataW.TrodAll enc P w base spare held [t0, t1, t2, t3, t4] args.toList ds ps) :
    ∃ v0 v1 v2 v3 v4 d0 d1 d2 d3 d4 p0 p1 p2 p3 p4, args = #[v0, v1, v2, v3, v4] ∧ ds = [d0, d1, d2, d3, d4] ∧ ps = p0 ++ (p1 ++ (p2 ++ (p3 ++ p4))) ∧ DataW.Trod enc P w base spare held t0 v0 d0 p0 ∧ DataW.Trod enc P w base spare held t1 v1 d1 p1 ∧ DataW.Trod enc P w base spare held t2 v2 d2 p2 ∧ DataW.Trod enc P w base spare held t3 v3 d3 p3 ∧ DataW.Trod enc P w base spare held t4 v4 d4 p4 := by
  obtain ⟨v0, r0, d0, s0, p0, q0, e0, rfl, rfl, h0, h⟩ := trodAll_cons h
  obtain ⟨v1, r1, d1, s1, p1, q1, e1, rfl, rfl, h1, h⟩ := trodAll_cons h
  obtain ⟨v2, r2, d2, s2, p2, q2, e2, rfl, rfl, h2, h⟩ := trodAll_cons h
  obtain ⟨v3, r3, d3, s3, p3, q3, e3, rfl, rfl, h3, h⟩ := trodAll_cons h
  obtain ⟨v4, r4, d4, s4, p4, q4, e4, rfl, rfl, h4, h⟩ := trodAll_cons h
  obtain ⟨rfl, rfl, rfl⟩ := trodAll_nil h
  exact ⟨v0, v1, v2, v3, v4, d0, d1, d2, d3, d4, p0, p1, p2, p3, p4, by apply Array.toList_inj.1; rw [e0, e1, e2, e3, e4], rfl, by simp, h0, h1, h2, h3, h4⟩

/-! ### THE ROW's STEP -/
set_option maxRecDepth 100000 in
theorem lifted (os : Os) (started : os.Started) (H : Type) (enc : TypeId × Value → H) :
    ReturnsInHanded {} Try.checked os 7 .any (Rows.poolJoinedSpec.pre6 enc Try.prog Try.f7 Rows.poolJoinedRow.domain false) (Rows.poolJoinedSpec.post enc Try.prog Try.f7 false true false false) := by
  refine returnsInHanded_of_change (C := Try.checked) own started (by kernel_rfl) Try.func7
    (ChangeSpec.witness6 (enc := enc) (C := Try.checked) false ⟨#[], #[.agg #[.int .i64 0, .int .i64 0, .slice none 0 0, .slice none 0 0, .bool false, .int .i64 0, .int .i64 0, .int .i64 0], .slice none 0 0, .int .u8 0, .int .u8 0, .int .u8 0], []⟩ 8 (by kernel_rfl) (by kernel_rfl) (by kernel_rfl) (by kernel_rfl)) ?_
  intro W base args ds gs before hval0 hW hcnd _
  have hval : ∀ (j : Nat) t v, Try.f7.params[j]? = some t → args[j]? = some v → Value.okWide Try.prog W .any base t v := hval0
  have hW' := hW
  obtain ⟨p, q, hA0, hV, rfl, hfz, hnd⟩ := hW
  have hA : DataW.TrodAll enc Try.prog W 0 (fun _ => true) true Try.f7.params.toList args.toList ds p := hA0
  rw [Try.params7] at hA hval
  obtain ⟨v0, v1, v2, v3, v4, d0, d1, d2, d3, d4, p0, p1, p2, p3, p4, rfl, rfl, rfl, h0, h1, h2, h3, h4⟩ := trodAll_five hA
  obtain ⟨rfl, rfl⟩ := trodVars_none hV
  obtain ⟨cs0, rfl, -⟩ := okWide_struct Try.underlying25 (hval 0 25 v0 rfl rfl)
  obtain ⟨A1, n1, c1, rfl⟩ := okWide_slice Try.underlying44 (hval 1 44 v1 rfl rfl)
  obtain ⟨x2, rfl, rfl, rfl, wx2⟩ := open_int Try.underlying5 (hval 2 5 v2 rfl rfl) h2
  obtain ⟨x3, rfl, rfl, rfl, wx3⟩ := open_int Try.underlying5 (hval 3 5 v3 rfl rfl) h3
  obtain ⟨x4, rfl, rfl, rfl, wx4⟩ := open_int Try.underlying5 (hval 4 5 v4 rfl rfl) h4
  have h0k := h0
  have h1k := h1
  obtain ⟨f0, hf0⟩ := h0
  obtain ⟨f1, hf1⟩ := h1
  obtain ⟨b0, A0, n0, c0, B0, m0, d0, e0, i0⟩ := book_arg (cs := cs0) hf0
  subst e0
  obtain ⟨A1', n1', c1', x1, e1, l1, i1⟩ := bytes_arg hf1
  cases e1
  clear hA0 hval0
  simp only [List.append_nil] at hW'
  have hlt0 : ∀ x ∈ p0, x.block < W.heap.size := fun x hx => by simpa using hW'.lt x (by simp [hx])
  have hlt1 : ∀ x ∈ p1, x.block < W.heap.size := fun x hx => by simpa using hW'.lt x (by simp [hx])
  have bd2 : 0 ≤ x2 ∧ x2 ≤ 255 := by have := bounds_u8 wx2; omega
  have bd3 : 0 ≤ x3 ∧ x3 ≤ 255 := by have := bounds_u8 wx3; omega
  have bd4 : 0 ≤ x4 ∧ x4 ≤ 255 := by have := bounds_u8 wx4; omega
  refine (PoolJoined_any W W.heap.size b0 A0 n0 c0 B0 m0 d0 A1 n1 c1 x1 x2 x3 x4 i0 i1 bd2 bd3 bd4 (Nat.le_refl _)).mono fun e W' ⟨he, hg⟩ => ?_
  subst he
  exact ⟨_, rfl, _, _, _, [], p0 ++ (p1 ++ ([] ++ ([] ++ ([] ++ [])))), [], hW', trodAll_cons_mk (shut_bool Try.underlying4 _) trodAll_mk0,
    trodAll_cons_mk (Below.trod laidOut (by kernel_rfl) (of_decide_eq_true (by kernel_rfl)) h0k hg hlt0) (trodAll_cons_mk (Below.trod laidOut (by kernel_rfl) (of_decide_eq_true (by kernel_rfl)) h1k hg hlt1) (trodAll_cons_mk (shut_int Try.underlying5 wx2) (trodAll_cons_mk (shut_int Try.underlying5 wx3) (trodAll_cons_mk (shut_int Try.underlying5 wx4) trodAll_mk0)))),
    rfl, hg.frame _, fun h => by cases h⟩

theorem over : Rows.poolJoinedRow.holds Try.pinned (OpenSpec.ofChange Rows.poolJoinedSpec) :=
  OpenClaim.holds_of_wide 7 Try.f7 rfl rfl rfl rfl rfl rfl rfl ⟨rfl, rfl, rfl, rfl, rfl⟩ rfl rfl rfl rfl rfl (by kernel_rfl) Try.func7 (by kernel_rfl)
    (of_decide_eq_true (by kernel_rfl)) (by unfold Func.isWrapper; first | (rw [if_pos (by decide +kernel)]; kernel_rfl) | (rw [if_neg (by decide +kernel)]; exact ⟨rfl, rfl⟩))
    (fun os started H enc _ => lifted os started H enc)

/-- The statement. -/
theorem proved : Rows.PoolJoinedSaid :=
  over
#print axioms proved
end Go.Proofs.Ytbahiemjaomdcaa.poolJoined
