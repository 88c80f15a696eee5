/- Parts of a proof: OAD OAE. -/
import Derived.Test.YtfidkgpimlpdbaaF13
import Derived.Test.YtfidkgpimlpdbaaF14
import Derived.Test.YtfidkgpimlpdbaaF15

/- odds: choices. -/
namespace Go.Proofs.Ytfidkgpimlpdbaa
open Go.RowKit Go.Shelf

theorem At.comp {w0 w w' : World} {kn rows R : List KB} {sz sz' : Nat} (h : At w0 w kn rows sz) (h2 : At w w' [] R sz') : At w0 w' kn (R ++ rows) w'.heap.size := by
  have h3 := h.call h2.below
  refine ⟨h3.ok, fun kb hk => (List.mem_append.1 hk).elim (h2.rok kb) (h3.rok kb), h3.low, fun kb hk => (List.mem_append.1 hk).elim (fun h9 => Nat.le_trans h.below.size (h2.rlow kb h9)) (h3.rlow kb), ?_, rfl, h3.below⟩
  rw [List.append_assoc, List.map_append]
  have hn2 := h2.nd
  rw [List.append_nil] at hn2
  refine List.nodup_append.2 ⟨hn2, h.nd, fun a ha b hb e => ?_⟩
  obtain ⟨kb, hkb, rfl⟩ := List.mem_map.1 ha
  obtain ⟨kc, hkc, rfl⟩ := List.mem_map.1 hb
  have h4 := h2.rlow kb hkb
  have h5 : kc.id < w.heap.size := (List.mem_append.1 hkc).elim (fun h9 => h.rlt h9) (fun h9 => h.lt h9)
  omega
theorem At.rperm {w0 w : World} {kn rows rows' : List KB} {sz : Nat} (h : At w0 w kn rows sz) (hp : rows.Perm rows') : At w0 w kn rows' sz :=
  ⟨h.ok, fun kb hk => h.rok kb (hp.mem_iff.2 hk), h.low, fun kb hk => h.rlow kb (hp.mem_iff.2 hk), (((hp.append_right kn).map _).nodup_iff).1 h.nd, h.size, h.below⟩
def boxes (bs : List Nat) : List KB := bs.zipIdx.map fun p => ⟨p.1, .cells #[.int .i64 (p.2 : Int)] 3 (0, 0)⟩
theorem boxes_push (bs : List Nat) (b : Nat) : boxes (bs ++ [b]) = boxes bs ++ [⟨b, .cells #[.int .i64 (bs.length : Int)] 3 (0, 0)⟩] := by
  unfold boxes
  rw [List.zipIdx_append, List.map_append]
  simp
theorem boxes_mem {bs : List Nat} {j b : Nat} (h : bs[j]? = some b) : (⟨b, .cells #[.int .i64 (j : Int)] 3 (0, 0)⟩ : KB) ∈ boxes bs := by
  unfold boxes
  refine List.mem_map.2 ⟨(b, j), ?_, rfl⟩
  rw [List.mem_zipIdx_iff_getElem?]
  exact h
noncomputable def chsV (bs : List Nat) : List Value := .func (.func 110) #[] #[] :: .func (.func 111) #[] #[] :: bs.map fun b => .func (.func 112) #[] #[.pointer (some ⟨b, 0, none⟩)]
theorem chsV_len (bs : List Nat) : (chsV bs).length = 2 + bs.length := by simp [chsV]; omega
theorem chsV_push (bs : List Nat) (b : Nat) : chsV (bs ++ [b]) = chsV bs ++ [.func (.func 112) #[] #[.pointer (some ⟨b, 0, none⟩)]] := by simp [chsV]
set_option maxHeartbeats 4000000 in
set_option maxRecDepth 20000 in
theorem choices_any (w : World) (m : Int) (A : Option Addr) (n c mb M : Nat) (hM : m = (M : Int)) (hm : M ≤ 5) :
    Calls Try.prog 90 #[.agg #[.int .i64 m, .slice A n c, .map (some mb)]] w fun e w' => ∃ g cv ov bs, e = .returned (.slice (some ⟨g, 0, none⟩) (2 + M) cv) ∧ bs.length = M ∧ RowV 108 1 (.slice (some ⟨g, 0, none⟩) (chsV bs).length cv) (chsV bs).length (chsV bs) ov ∧ At w w' [] (ov ++ boxes bs) w'.heap.size := by
  subst hM
  refine enter 18 Try.func90 (by kernel_rfl) fun hA => ?_
  refine runS hA 22 [.k 0] xn on (by kernel_rfl) fun w1 hA9 => ?_
  clear hA; have hA := hA9; clear hA9
  have hAl := (hA.atK [⟨w.heap.size, .cells #[.int .i64 (M : Int), .slice A n c, .map (some mb)] 100 (0, 0)⟩, ⟨w.heap.size + 1, .cells #[.func (.func 110) #[] #[], .func (.func 111) #[] #[]] 108 (0, 0)⟩] (by kernel_rfl)).lower (kn := [⟨w.heap.size, .cells #[.int .i64 (M : Int), .slice A n c, .map (some mb)] 100 (0, 0)⟩])
  refine reknow ⟨[⟨w.heap.size, .cells #[.int .i64 (M : Int), .slice A n c, .map (some mb)] 100 (0, 0)⟩], w1.heap.size, [], [], [], [], []⟩ hAl.resize (Nat.zero_le _) fun hA => ?_
  have hR0 : RowV 108 1 (.slice (some ⟨w.heap.size + 1, 0, none⟩) (chsV []).length 2) (chsV []).length (chsV []) [⟨w.heap.size + 1, .cells #[.func (.func 110) #[] #[], .func (.func 111) #[] #[]] 108 (0, 0)⟩] := ⟨rfl, .inr ⟨_, _, _, rfl, rfl, Nat.le_refl _, by decide, rfl, rfl⟩⟩
  refine revals hA (rc 3 (show .slice (some ⟨w.heap.size + 1, 0, none⟩) 2 2 = .slice (some ⟨w.heap.size + 1, 0, none⟩) (chsV []).length 2 from rfl) rn) (by kernel_rfl) fun hA9 => ?_
  clear hA; have hA := hA9; clear hA9
  refine loop (γ := Nat × Nat × Nat × List KB × List Nat) (fun ⟨k, g, cv, ov, bs⟩ => [(3, .slice (some ⟨g, 0, none⟩) ((chsV bs).length) cv), (8, .int .i64 (M : Int)), (9, .int .i64 (k : Int))]) (fun ⟨k, g, cv, ov, bs⟩ => [⟨w.heap.size, .cells #[.int .i64 (M : Int), .slice A n c, .map (some mb)] 100 (0, 0)⟩]) (fun ⟨k, g, cv, ov, bs⟩ => ov ++ boxes bs) (fun g9 ⟨k, g, cv, ov, bs⟩ wr => (k ≤ M ∧ g9 = M - k) ∧ bs.length = k ∧ RowV 108 1 (.slice (some ⟨g, 0, none⟩) (chsV bs).length cv) (chsV bs).length (chsV bs) ov) M ⟨0, w.heap.size + 1, 2, [⟨w.heap.size + 1, .cells #[.func (.func 110) #[] #[], .func (.func 111) #[] #[]] 108 (0, 0)⟩], []⟩ [true] hA (by kernel_rfl) (⟨⟨Nat.zero_le _, rfl⟩, rfl, hR0⟩) ?_
  rintro _ ⟨k, g, cv, ov, bs⟩ wr ⟨⟨hk, rfl⟩, hbl, hrk⟩ J hJ hA
  by_cases hlt : k < M
  case neg =>
    refine runS hA 9 [.b false] xn (oc (dec_f (show ¬ ((k : Int) < (M : Int)) by omega)) on) (by kernel_rfl) fun w2 hA9 => ?_
    clear hA; have hA := hA9; clear hA9
    refine leave hA (by kernel_rfl) fun hA9 => ?_
    clear hA; have hA := hA9; clear hA9
    refine runS hA 9 [] xn on (by kernel_rfl) fun w3 hA9 => ?_
    clear hA; have hA := hA9; clear hA9
    have hAe := hA.atK [⟨w.heap.size, .cells #[.int .i64 (M : Int), .slice A n c, .map (some mb)] 100 (0, 0)⟩] (by kernel_rfl)
    exact ret (v := .slice (some ⟨g, 0, none⟩) ((chsV bs).length) cv) hA [] (by kernel_rfl) ⟨g, cv, ov, bs, by rw [chsV_len, show bs.length = M by omega], by omega, hrk, (hAe.sub (List.nil_sublist _)).resize⟩
  case pos =>
    refine runS hA 22 [.b true, .k 1] xn (oc (dec_t (show (k : Int) < (M : Int) by omega)) on) (by kernel_rfl) fun w2 hA9 => ?_
    clear hA; have hA := hA9; clear hA9
    have hcl := cell_of_obj (a := ⟨wr.heap.size + 1, 0, none⟩) (hA.at_.ok ⟨wr.heap.size + 1, .cells #[.func (.func 112) #[] #[.pointer (some ⟨wr.heap.size, 0, none⟩)]] 108 (0, 0)⟩ (List.mem_of_getElem? (i := 2) (by kernel_rfl))) rfl rfl
    refine appE (t := 106) (e := 108) (ty := 106) (z := .nilFunc) (size := 1) (bytes := 8) (v := .slice (some ⟨g, 0, none⟩) (chsV bs).length cv) (n := (chsV bs).length) (m := 1) (cp := 1) (A := some ⟨wr.heap.size + 1, 0, none⟩) [.func (.func 112) #[] #[.pointer (some ⟨wr.heap.size, 0, none⟩)]] hA hrk (by kernel_rfl) rfl (fun _ => ⟨_, rfl, fun q u hu => by match q, hu with | 0, hu => cases hu; exact hcl⟩) rfl (by rw [chsV_len]; omega) (by omega) fun v2 w3 ob2 hr2 hnil2 hat2 hsz2 hA9 => ?_
    clear hA; have hA := hA9; clear hA9
    have hle : (chsV (bs ++ [wr.heap.size])).length = (chsV bs).length + 1 := by rw [chsV_push, List.length_append]; rfl
    obtain ⟨g2, c2', rfl⟩ : ∃ g2 c2', v2 = .slice (some ⟨g2, 0, none⟩) ((chsV bs).length + 1) c2' := by
      have hq9 := hr2.2
      rcases hq9 with ⟨-, h9, -⟩ | ⟨g2, c2', u2, h1, -⟩
      · omega
      · exact ⟨g2, c2', h1⟩
    refine runS hA 8 [.v (.int .i64 ((k : Int) + 1))] xn (oc (show Value.int .i64 (IntKind.i64.wrap ((k : Int) + 1)) = .int .i64 ((k : Int) + 1) from wrp (by omega)) on) (by kernel_rfl) fun w4 hA9 => ?_
    clear hA; have hA := hA9; clear hA9
    have hrk2 : RowV 108 1 (.slice (some ⟨g2, 0, none⟩) (chsV (bs ++ [wr.heap.size])).length c2') (chsV (bs ++ [wr.heap.size])).length (chsV (bs ++ [wr.heap.size])) ob2 := by rw [hle, chsV_push]; exact hr2
    have hAx := hA.atK [⟨w.heap.size, .cells #[.int .i64 (M : Int), .slice A n c, .map (some mb)] 100 (0, 0)⟩, ⟨wr.heap.size, .cells #[.int .i64 (k : Int)] 3 (0, 0)⟩, ⟨wr.heap.size + 1, .cells #[.func (.func 112) #[] #[.pointer (some ⟨wr.heap.size, 0, none⟩)]] 108 (0, 0)⟩] (by kernel_rfl)
    have hAy := ((hAx.sel (kn' := [⟨w.heap.size, .cells #[.int .i64 (M : Int), .slice A n c, .map (some mb)] 100 (0, 0)⟩, ⟨wr.heap.size, .cells #[.int .i64 (k : Int)] 3 (0, 0)⟩]) [0, 1] rfl (by decide)).lower (kn := [⟨w.heap.size, .cells #[.int .i64 (M : Int), .slice A n c, .map (some mb)] 100 (0, 0)⟩])).rperm (rows' := ob2 ++ boxes (bs ++ [wr.heap.size])) (by rw [boxes_push, hbl, ← List.append_assoc]; exact (List.perm_append_comm (l₁ := [_])))
    refine reknow ⟨[⟨w.heap.size, .cells #[.int .i64 (M : Int), .slice A n c, .map (some mb)] 100 (0, 0)⟩], w4.heap.size, [], [], [], [], []⟩ hAy.resize (Nat.zero_le _) fun hA => ?_
    refine revals hA (rc 3 (show .slice (some ⟨g2, 0, none⟩) ((chsV bs).length + 1) c2' = .slice (some ⟨g2, 0, none⟩) ((chsV (bs ++ [wr.heap.size])).length) c2' by rw [hle]) (rc 9 (show .int .i64 ((k : Int) + 1) = .int .i64 ((k + 1 : Nat) : Int) by rfl) rn)) (by kernel_rfl) fun hA9 => ?_
    clear hA; have hA := hA9; clear hA9
    exact again hJ (M - (k + 1)) (⟨k + 1, g2, c2', ob2, bs ++ [wr.heap.size]⟩) [true] hA (by omega) (by kernel_rfl) (⟨⟨by omega, rfl⟩, by rw [List.length_append, hbl]; rfl, hrk2⟩)
theorem row_cell {T : TypeId} {g n c : Nat} {vs : List Value} {ov : List KB} (h : RowV T 1 (.slice (some ⟨g, 0, none⟩) n c) n vs ov) : ∃ cu : Array Value, ov = [⟨g, .cells cu T (0, 0)⟩] ∧ n ≤ cu.size ∧ ∀ j, j < n → cu[j]? = vs[j]? := by
  rcases h.2 with ⟨h1, -⟩ | ⟨g', cap, cu, h1, h2, h3, -, h5, h6⟩
  · cases h1
  · cases h1
    refine ⟨cu, h2, by omega, fun j hj => ?_⟩
    rw [← h6, List.getElem?_take, if_pos (by omega), Array.getElem?_toList]
theorem At.shift {w0 w : World} {kn kn' rows rows' : List KB} {sz : Nat} (h : At w0 w kn rows sz) (hp : (kn' ++ rows').Perm (kn ++ rows)) : At w0 w kn' rows' sz := by
  have hm : ∀ kb, kb ∈ kn' ++ rows' → kb ∈ kn ++ rows := fun kb hk => hp.mem_iff.1 hk
  have ho : ∀ kb, kb ∈ kn' ++ rows' → w.heap[kb.id]? = some kb.obj ∧ w0.heap.size ≤ kb.id := fun kb hk => (List.mem_append.1 (hm kb hk)).elim (fun h9 => ⟨h.ok kb h9, h.low kb h9⟩) (fun h9 => ⟨h.rok kb h9, h.rlow kb h9⟩)
  refine ⟨fun kb hk => (ho kb (List.mem_append_left _ hk)).1, fun kb hk => (ho kb (List.mem_append_right _ hk)).1, fun kb hk => (ho kb (List.mem_append_left _ hk)).2, fun kb hk => (ho kb (List.mem_append_right _ hk)).2, ?_, h.size, h.below⟩
  exact ((((List.perm_append_comm.trans hp).trans List.perm_append_comm).map _).nodup_iff).2 h.nd
def chP : Nat → Int × Bool → Bool
  | 0 => fun s => !s.2
  | 1 => fun s => s.2
  | r + 2 => fun s => s.1 == (r : Int)
def tryF (qs : List Qt) (m : Int) (j : Nat) : Bool := winF qs (stkL qs (chP j)) m.toNat
/-- The first stakes tried that win surely. -/
def stkR (m : Int) (qs : List Qt) : Option (List Int) := ((List.range (2 + m.toNat)).find? (tryF qs m)).map fun j => stkL qs (chP j)
theorem stkR_none {m : Int} {qs : List Qt} {k : Nat} (hk : 2 + m.toNat ≤ k) (h : ∀ i, i < k → tryF qs m i = false) : stkR m qs = none := by
  unfold stkR
  rw [List.find?_eq_none.2 fun i hi => by rw [h i (by have := List.mem_range.1 hi; omega)]; decide]
  rfl
theorem stkR_some {m : Int} {qs : List Qt} {j : Nat} (hj : j < 2 + m.toNat) (h : ∀ i, i < j → tryF qs m i = false) (h1 : tryF qs m j = true) : stkR m qs = some (stkL qs (chP j)) := by
  unfold stkR
  rw [List.find?_range_eq_some.2 ⟨h1, List.mem_range.2 hj, fun i hi => by rw [h i hi]; rfl⟩]
  rfl
theorem map_nodup {α β : Type} {f : α → β} {l : List α} (h : l.Nodup) (hf : ∀ a ∈ l, ∀ b ∈ l, f a = f b → a = b) : (l.map f).Nodup :=
  List.pairwise_map.2 (List.Pairwise.imp_of_mem (fun {a b} ha hb hn e => hn (hf a ha b hb e)) h)
theorem mt_few {m : Int} {qs : List Qt} (V : ValidM m qs) (j : Nat) : (mtM qs (chP j)).length ≤ 5 := by
  have hnd : ((mtM qs (chP j)).map (·.1)).Nodup := ((List.filter_sublist (p := fun (e : (Int × Bool) × Nat) => chP j e.1) (l := bestM qs qs.length)).map _).nodup (bestM_keys qs _)
  have hin : ∀ k ∈ (mtM qs (chP j)).map (·.1), 0 ≤ k.1 ∧ k.1 ≤ 4 ∧ chP j k = true := fun k hk => by
    obtain ⟨e, he, rfl⟩ := List.mem_map.1 hk
    unfold mtM at he
    rw [List.mem_filter] at he
    have h1 := bestM_lt qs qs.length e he.1
    have h2 := (V.all _ (get_mem (d := noQ) h1.1)).1
    have h3 := V.few
    rw [h1.2]
    refine ⟨h2.1, ?_, by rw [← h1.2]; exact he.2⟩
    show (qs[e.2]?.getD noQ).r ≤ 4
    omega
  rw [← List.length_map (f := fun e : (Int × Bool) × Nat => e.1)]
  match j, hnd, hin with
  | 0, hnd, hin =>
    rw [← List.length_map (f := fun k : Int × Bool => k.1.toNat)]
    refine nodup_len 5 _ (map_nodup hnd fun a ha b hb e => ?_) fun i hi => ?_
    · have h1 := hin a ha; have h2 := hin b hb
      have h3 : a.2 = false := by have := h1.2.2; simpa [chP] using this
      have h4 : b.2 = false := by have := h2.2.2; simpa [chP] using this
      exact Prod.ext (by have e : a.1.toNat = b.1.toNat := e; omega) (h3.trans h4.symm)
    · obtain ⟨a, ha, rfl⟩ := List.mem_map.1 hi
      have h1 := hin a ha
      show a.1.toNat < 5
      omega
  | 1, hnd, hin =>
    rw [← List.length_map (f := fun k : Int × Bool => k.1.toNat)]
    refine nodup_len 5 _ (map_nodup hnd fun a ha b hb e => ?_) fun i hi => ?_
    · have h1 := hin a ha; have h2 := hin b hb
      have h3 : a.2 = true := by have := h1.2.2; simpa [chP] using this
      have h4 : b.2 = true := by have := h2.2.2; simpa [chP] using this
      exact Prod.ext (by have e : a.1.toNat = b.1.toNat := e; omega) (h3.trans h4.symm)
    · obtain ⟨a, ha, rfl⟩ := List.mem_map.1 hi
      have h1 := hin a ha
      show a.1.toNat < 5
      omega
  | r + 2, hnd, hin =>
    rw [← List.length_map (f := fun k : Int × Bool => if k.2 then 1 else 0)]
    refine nodup_len 5 _ (map_nodup hnd fun a ha b hb e => ?_) fun i hi => ?_
    · have h1 := hin a ha; have h2 := hin b hb
      have h3 : a.1 = (r : Int) := by have := h1.2.2; simpa [chP] using this
      have h4 : b.1 = (r : Int) := by have := h2.2.2; simpa [chP] using this
      have e : (if a.2 then 1 else 0) = (if b.2 then 1 else 0) := e
      exact Prod.ext (h3.trans h4.symm) (by cases h5 : a.2 <;> cases h6 : b.2 <;> simp [h5, h6] at e ⊢)
    · obtain ⟨a, ha, rfl⟩ := List.mem_map.1 hi
      show (if a.2 then 1 else 0) < 5
      split <;> omega
theorem bndL_le {n d : Int} (hn : 0 ≤ n ∧ n ≤ 190) (hd : 1 ≤ d ∧ d ≤ 10) : (bndF n d).1 ≤ (bndF n d).2 := by
  have h1 := rat_cross (n := d) (d := n + d)
  have hb := bnd_ok hn hd
  change (bndF n d).1 * (n + d) = d * (bndF n d).2 at h1
  have h2 := Int.mul_le_mul_of_nonneg_right (show d ≤ n + d by omega) (show 0 ≤ (bndF n d).2 by omega)
  rw [← h1, Int.mul_comm (n + d)] at h2
  exact Int.le_of_mul_le_mul_right h2 (by omega)
theorem stkL_ok {m : Int} {qs : List Qt} (V : ValidM m qs) (j : Nat) : Stk qs.length (stkL qs (chP j)) := by
  refine ⟨by simp [stkL], fun x hx => ?_⟩
  unfold stkL at hx
  obtain ⟨i, hi, rfl⟩ := List.mem_map.1 hx
  have hf := mt_few V j
  have hok := mt_oks (p := chP j) V
  have hlb := lcmE_pos hok
  have hpw := pow_few (k := ((mtM qs (chP j)).map (·.2)).length) (by rw [List.length_map]; exact hf)
  split
  · have hqo := strict_ok V (i := i) (List.mem_range.1 hi)
    have hbo := bnd_ok hqo.1 hqo.2
    have hle : (bdQ qs i).1 ≤ (bdQ qs i).2 := bndL_le hqo.1 hqo.2
    unfold stkV
    have h0 : 0 ≤ lcmE qs ((mtM qs (chP j)).map (·.2)) / (bdQ qs i).2 := Int.ediv_nonneg (by omega) (Int.le_of_lt hbo.2.2.1)
    have h1 := Int.mul_nonneg h0 hbo.1
    have h2 := Int.mul_le_mul_of_nonneg_left hle h0
    have h3 := Int.ediv_mul_le (lcmE qs ((mtM qs (chP j)).map (·.2))) (b := (bdQ qs i).2) (Int.ne_of_gt hbo.2.2.1)
    exact ⟨h1, by omega⟩
  · omega
theorem ints_cells {w : World} {g n : Nat} {T : TypeId} {cur : Array Value} {L : List Int} (h : w.heap[g]? = some (.cells cur T (0, 0))) (hL : L.length = n) (hn : n ≤ 1000000) (hc : ∀ j, j < n → cur[j]? = some (.int .i64 (L[j]?.getD 0))) : IntsAt w w.heap.size (some ⟨g, 0, none⟩) n L :=
  ⟨hL, by omega, fun _ => ⟨g, 0, rfl, (Array.getElem?_eq_some_iff.1 h).1, fun j hj q v hv => by
    match q, hv with
    | 0, hv => cases hv; exact cell_of_obj h rfl (by show cur[0 + j * 1 + 0]? = _; rw [Nat.zero_add, Nat.mul_one, Nat.add_zero]; exact hc j hj)⟩⟩
end Go.Proofs.Ytfidkgpimlpdbaa

/- odds: Stakes. -/
namespace Go.Proofs.Ytfidkgpimlpdbaa
open Go.RowKit Go.Shelf

theorem SlAt.wide {α : Type} {enc : α → List Value} {k : Nat} {d : α} {w : World} {B B' : Nat} {A : Option Addr} {n : Nat} {xs : List α} (h : SlAt enc k d w B A n xs) (hB : B ≤ B') : SlAt enc k d w B' A n xs :=
  ⟨h.1, h.2.1, fun h0 => by obtain ⟨b, off, e, hlt, hc⟩ := h.2.2 h0; exact ⟨b, off, e, by omega, hc⟩⟩
set_option maxHeartbeats 8000000 in
set_option maxRecDepth 20000 in
theorem Stakes_any (w : World) (B : Nat) (m : Int) (A : Option Addr) (n c : Nat) (qs : List Qt) (hx : QtsAt w B A n qs) (hB : B ≤ w.heap.size) (hr : ∀ q ∈ qs, -9223372036854775808 ≤ q.r ∧ q.r ≤ 9223372036854775807) :
    Calls Try.prog 39 #[.agg #[.int .i64 m, .slice A n c]] w fun e w' => Below w.heap.size w w' ∧ (mktE m qs ≠ 0 → e = .returned (.tuple #[.slice none 0 0, .int .i64 (mktE m qs)])) ∧
      (mktE m qs = 0 → stkR m qs = none → e = .returned (.tuple #[.slice none 0 0, .int .i64 5])) ∧
      (mktE m qs = 0 → ∀ L, stkR m qs = some L → ∃ g, e = .returned (.tuple #[.slice (some ⟨g, 0, none⟩) n n, .int .i64 0]) ∧ w'.ownsRow w.heap.size 2 1 (.slice (some ⟨g, 0, none⟩) n n) n (ints L)) := by
  have hl := hx.1
  have hn9 := hx.2.1
  refine enter 37 Try.func39 (by kernel_rfl) fun hA => ?_
  refine runS hA 10 [.k 0, .k 0] xn on (by kernel_rfl) fun w1 hA9 => ?_
  clear hA; have hA := hA9; clear hA9
  by_cases hE : mktE m qs = 0
  case pos =>
    have V := mkt_ok hE
    have hAp_mb := hA.atK [⟨w.heap.size, .cells #[.int .i64 m, .slice A n c] 44 (0, 0)⟩] (by kernel_rfl)
    refine call hA [] on (deskOf_ok w1 B m A n c qs (hx.below hA.below hB) (Nat.le_trans hB hA.size) hr hE) (by kernel_rfl) (by rintro e v ⟨mb, o, rfl, hbm, hmb, hmo, hmg⟩; exact hbm) ?_
    rintro e w2 ⟨mb, o, rfl, hbm, hmb, hmo, hmg⟩
    refine ⟨_, rfl, fun hA => ?_⟩
    have hAq_mb := At.know hAp_mb hbm hmb hmg
    refine reknow ⟨[⟨w.heap.size, .cells #[.int .i64 m, .slice A n c] 44 (0, 0)⟩, ⟨mb, o⟩], w2.heap.size, [], [], [], [], []⟩ hAq_mb (Nat.zero_le _) fun hA => ?_
    have hfew := V.few
    have hlen := V.len
    have hq9 : ∃ M : Nat, m = (M : Int) := ⟨m.toNat, by omega⟩
    obtain ⟨M, hM⟩ := hq9
    have hmt : m.toNat = M := by omega
    refine runS hA 23 [.k 2, .k 2, .k 2, .k 0] xn on (by kernel_rfl) fun w3 hA9 => ?_
    clear hA; have hA := hA9; clear hA9
    refine mkS (t := 45) (e := 2) (z := .int .i64 0) (size := 1) (bytes := 8) (n := n) (l := (n : Int)) (kl := .i64) (kc := .i64) hA rfl (by kernel_rfl) (by omega) (by omega) fun w4 hzm hbm9 hA9 => ?_
    clear hA; have hA := hA9; clear hA9
    have hms : (madeCells (Value.int .i64 0).cells (n * 1)).size = n := by rw [made_len, Nat.mul_one]
    refine runS hA 7 [.k 2, .k 2, .k 2] xn on (by kernel_rfl) fun w5 hA9 => ?_
    clear hA; have hA := hA9; clear hA9
    have hAp := hA.atK [⟨w.heap.size, .cells #[.int .i64 m, .slice A n c] 44 (0, 0)⟩, ⟨mb, o⟩, ⟨w2.heap.size, .cells #[.int .i64 m, .slice A n c, .map (some mb)] 100 (0, 0)⟩, ⟨w3.heap.size, .cells (madeCells (Value.int .i64 0).cells (n * 1)) 2 (0, 0)⟩] (by kernel_rfl)
    refine callW hA [] on (choices_any w5 m A n c mb M hM (by omega)) (by kernel_rfl) ?_
    rintro e w6 ⟨gc, cv, ov, bs, rfl, hbl, hrk, hAc⟩
    refine ⟨.slice (some ⟨gc, 0, none⟩) (2 + M) cv, _, _, rfl, (hAp.comp hAc).resize, hAc.below.size, fun hA => ?_⟩
    have hcl : (chsV bs).length = 2 + M := by rw [chsV_len, hbl]
    have hq9 := row_cell hrk
    obtain ⟨cu, rfl, hcu, hcc⟩ := hq9
    have hAu : At w w6 [⟨w.heap.size, .cells #[.int .i64 m, .slice A n c] 44 (0, 0)⟩, ⟨mb, o⟩, ⟨w2.heap.size, .cells #[.int .i64 m, .slice A n c, .map (some mb)] 100 (0, 0)⟩, ⟨w3.heap.size, .cells (madeCells (Value.int .i64 0).cells (n * 1)) 2 (0, 0)⟩, ⟨gc, .cells cu 108 (0, 0)⟩] (boxes bs ++ []) w6.heap.size := ((hA.atK [⟨w.heap.size, .cells #[.int .i64 m, .slice A n c] 44 (0, 0)⟩, ⟨mb, o⟩, ⟨w2.heap.size, .cells #[.int .i64 m, .slice A n c, .map (some mb)] 100 (0, 0)⟩, ⟨w3.heap.size, .cells (madeCells (Value.int .i64 0).cells (n * 1)) 2 (0, 0)⟩] (by kernel_rfl)).shift (by rw [show ∀ l : List KB, ([⟨w.heap.size, .cells #[.int .i64 m, .slice A n c] 44 (0, 0)⟩, ⟨mb, o⟩, ⟨w2.heap.size, .cells #[.int .i64 m, .slice A n c, .map (some mb)] 100 (0, 0)⟩, ⟨w3.heap.size, .cells (madeCells (Value.int .i64 0).cells (n * 1)) 2 (0, 0)⟩, ⟨gc, .cells cu 108 (0, 0)⟩] : List KB) ++ l = [⟨w.heap.size, .cells #[.int .i64 m, .slice A n c] 44 (0, 0)⟩, ⟨mb, o⟩, ⟨w2.heap.size, .cells #[.int .i64 m, .slice A n c, .map (some mb)] 100 (0, 0)⟩, ⟨w3.heap.size, .cells (madeCells (Value.int .i64 0).cells (n * 1)) 2 (0, 0)⟩] ++ ([⟨gc, .cells cu 108 (0, 0)⟩] ++ l) from fun _ => rfl]; exact List.Perm.refl _)).resize
    refine reknow ⟨[⟨w.heap.size, .cells #[.int .i64 m, .slice A n c] 44 (0, 0)⟩, ⟨mb, o⟩, ⟨w2.heap.size, .cells #[.int .i64 m, .slice A n c, .map (some mb)] 100 (0, 0)⟩, ⟨w3.heap.size, .cells (madeCells (Value.int .i64 0).cells (n * 1)) 2 (0, 0)⟩, ⟨gc, .cells cu 108 (0, 0)⟩], w6.heap.size, [], [], [], [], []⟩ hAu (Nat.zero_le _) fun hA => ?_
    refine runS hA 5 [] xn on (by kernel_rfl) fun w7 hA9 => ?_
    clear hA; have hA := hA9; clear hA9
    refine loop (γ := Nat × Array Value) (fun ⟨j, cur⟩ => [(4, .pointer (some ⟨w2.heap.size, 0, none⟩)), (6, .slice (some ⟨w3.heap.size, 0, none⟩) n n), (22, .slice (some ⟨gc, 0, none⟩) (2 + M) cv), (23, .int .i64 (2 + M)), (24, .int .i64 (j : Int))]) (fun ⟨j, cur⟩ => [⟨w.heap.size, .cells #[.int .i64 m, .slice A n c] 44 (0, 0)⟩, ⟨mb, o⟩, ⟨w2.heap.size, .cells #[.int .i64 m, .slice A n c, .map (some mb)] 100 (0, 0)⟩, ⟨w3.heap.size, .cells cur 2 (0, 0)⟩, ⟨gc, .cells cu 108 (0, 0)⟩]) (fun _ => (boxes bs ++ [])) (fun g ⟨j, cur⟩ wr => (j ≤ 2 + M ∧ g = 2 + M - j) ∧ cur.size = n ∧ ∀ i, i < j → tryF qs m i = false) (2 + M) ⟨0, (madeCells (Value.int .i64 0).cells (n * 1))⟩ [true, true, true, true, true] hA (by kernel_rfl) (⟨⟨Nat.zero_le _, rfl⟩, hms, fun i hi => absurd hi (Nat.not_lt_zero _)⟩) ?_
    rintro _ ⟨j, cur⟩ wr ⟨⟨hj, rfl⟩, hcs, hno⟩ J hJ hA
    by_cases hlt : j < 2 + M
    case neg =>
      refine runS hA 9 [.b false] xn (oc (dec_f (show ¬ (((j : Int) : Int) < ((2 + M) : Int)) by omega)) on) (by kernel_rfl) fun w8 hA9 => ?_
      clear hA; have hA := hA9; clear hA9
      refine leave hA (by kernel_rfl) fun hA9 => ?_
      clear hA; have hA := hA9; clear hA9
      refine runS hA 9 [] xn on (by kernel_rfl) fun w9 hA9 => ?_
      clear hA; have hA := hA9; clear hA9
      have hR := stkR_none (m := m) (qs := qs) (k := j) (by omega) hno
      exact ret (v := .tuple #[.slice none 0 0, .int .i64 5]) hA [] (by kernel_rfl) ⟨hA.below, fun h => absurd hE h, fun _ _ => rfl, fun _ L h => by rw [hR] at h; cases h⟩
    case pos =>
      have hrc := hcc j (by omega)
      have hj3 : j = 0 ∨ j = 1 ∨ ∃ r, j = r + 2 := by rcases j with _ | _ | r; exact .inl rfl; exact .inr (.inl rfl); exact .inr (.inr ⟨r, rfl⟩)
      rcases hj3 with hj0 | hj0 | ⟨r, hj0⟩
      ·
        have hPj : chP j = (fun s => !s.2) := by rw [hj0]; rfl
        have hv8 : cu[j]? = some (.func (.func 110) #[] #[]) := by rw [hrc, hj0]; rfl
        refine runS hA 23 [.b true, .i, .y 4 (.func (.func 110) #[] #[]), .k 2, .k 2, .k 2] xn (oc (dec_t (show (((j : Int) : Int) < ((2 + M) : Int)) by omega)) (oc (show (0 : Int) ≤ ((j : Int) : Int) ∧ ((j : Int) : Int) < ((2 + M) : Int) by omega) (oc (show cu[0 + j * 1]? = some (.func (.func 110) #[] #[]) from by rw [Nat.zero_add, Nat.mul_one]; exact hv8) on))) (by kernel_rfl) fun w8 hA9 => ?_
        clear hA; have hA := hA9; clear hA9
        have hAs : At w w8 [⟨w3.heap.size, .cells cur 2 (0, 0)⟩] ([⟨w.heap.size, .cells #[.int .i64 m, .slice A n c] 44 (0, 0)⟩, ⟨mb, o⟩, ⟨w2.heap.size, .cells #[.int .i64 m, .slice A n c, .map (some mb)] 100 (0, 0)⟩, ⟨gc, .cells cu 108 (0, 0)⟩] ++ (boxes bs ++ [])) w8.heap.size := ((hA.atK [⟨w.heap.size, .cells #[.int .i64 m, .slice A n c] 44 (0, 0)⟩, ⟨mb, o⟩, ⟨w2.heap.size, .cells #[.int .i64 m, .slice A n c, .map (some mb)] 100 (0, 0)⟩, ⟨w3.heap.size, .cells cur 2 (0, 0)⟩, ⟨gc, .cells cu 108 (0, 0)⟩] (by kernel_rfl)).shift ((List.perm_middle (a := (⟨w3.heap.size, .cells cur 2 (0, 0)⟩ : KB)) (l₁ := [⟨w.heap.size, .cells #[.int .i64 m, .slice A n c] 44 (0, 0)⟩, ⟨mb, o⟩, ⟨w2.heap.size, .cells #[.int .i64 m, .slice A n c, .map (some mb)] 100 (0, 0)⟩]) (l₂ := [⟨gc, .cells cu 108 (0, 0)⟩] ++ (boxes bs ++ []))).symm)).resize
        refine callW hA [] on (stake0_any w w8 B w3.heap.size m A n c mb qs cur ([⟨w.heap.size, .cells #[.int .i64 m, .slice A n c] 44 (0, 0)⟩, ⟨mb, o⟩, ⟨w2.heap.size, .cells #[.int .i64 m, .slice A n c, .map (some mb)] 100 (0, 0)⟩, ⟨gc, .cells cu 108 (0, 0)⟩] ++ (boxes bs ++ [])) o hx hB V hAs (List.mem_of_getElem? (i := 1) (by rfl)) (by rw [← hl]; exact hmo) hcs (by rw [← hPj]; exact mt_few V j)) (by kernel_rfl) ?_
        rintro e w9 ⟨rfl, hz, cur', hcs', hcc', hAt'⟩
        refine ⟨.tuple #[], _, _, rfl, ((hAt'.shift (kn' := [⟨w.heap.size, .cells #[.int .i64 m, .slice A n c] 44 (0, 0)⟩, ⟨mb, o⟩, ⟨w2.heap.size, .cells #[.int .i64 m, .slice A n c, .map (some mb)] 100 (0, 0)⟩, ⟨w3.heap.size, .cells cur' 2 (0, 0)⟩, ⟨gc, .cells cu 108 (0, 0)⟩]) (rows' := (boxes bs ++ [])) (List.perm_middle (a := (⟨w3.heap.size, .cells cur' 2 (0, 0)⟩ : KB)) (l₁ := [⟨w.heap.size, .cells #[.int .i64 m, .slice A n c] 44 (0, 0)⟩, ⟨mb, o⟩, ⟨w2.heap.size, .cells #[.int .i64 m, .slice A n c, .map (some mb)] 100 (0, 0)⟩]) (l₂ := [⟨gc, .cells cu 108 (0, 0)⟩] ++ (boxes bs ++ [])))).resize), hz, fun hA => ?_⟩
        refine runS hA 6 [.k 2, .k 2, .k 2] xn on (by kernel_rfl) fun w10 hA9 => ?_
        clear hA; have hA := hA9; clear hA9
        have hSj := stkL_ok V j
        have hlj : (stkL qs (chP j)).length = n := hSj.1.trans hl
        have hIs := ints_cells (n := n) (hA.at_.ok ⟨w3.heap.size, .cells cur' 2 (0, 0)⟩ (List.mem_of_getElem? (i := 3) (by kernel_rfl))) hlj (by omega) (fun i hi => by rw [hPj]; exact hcc' i hi)
        refine callB hA [] on (winSurely_any w10 w10.heap.size m A n c (.map (some mb)) qs (some ⟨w3.heap.size, 0, none⟩) n (stkL qs (chP j)) ((hx.below hA.below hB).wide (Nat.le_trans hB hA.below.size)) (Nat.le_refl _) V hIs hSj) (by kernel_rfl) fun w11 hb11 hA9 => ?_
        clear hA; have hA := hA9; clear hA9
        refine runS hA 2 [.t 0] xn on (by kernel_rfl) fun w12 hA9 => ?_
        clear hA; have hA := hA9; clear hA9
        have hq9 := Bool.eq_false_or_eq_true ((tryF qs m j))
        rcases hq9 with ht1 | ht1
        ·
          refine runS hA 11 [.b true] xn (oc (show Value.bool (tryF qs m j) = .bool true by rw [ht1] <;> rfl) on) (by kernel_rfl) fun w13 hA9 => ?_
          clear hA; have hA := hA9; clear hA9
          refine leave hA (by kernel_rfl) fun hA9 => ?_
          clear hA; have hA := hA9; clear hA9
          refine runS hA 2 [] xn on (by kernel_rfl) fun w14 hA9 => ?_
          clear hA; have hA := hA9; clear hA9
          have hR := stkR_some (m := m) (by omega) hno ht1
          exact ret (v := .tuple #[.slice (some ⟨w3.heap.size, 0, none⟩) n n, .int .i64 0]) hA [] (by kernel_rfl) ⟨hA.below, fun h => absurd hE h, fun _ h => by (rw [hR] at h; cases h), fun _ L h => by (rw [hR] at h; cases h; exact ⟨w3.heap.size, rfl, own_cells (hA.at_.ok ⟨w3.heap.size, .cells cur' 2 (0, 0)⟩ (List.mem_of_getElem? (i := 3) (by kernel_rfl))) (hA.at_.low (kb := ⟨w3.heap.size, .cells cur' 2 (0, 0)⟩) (List.mem_of_getElem? (i := 3) (by kernel_rfl))) hcs' hlj (by omega) (fun i hi => by rw [hPj]; exact hcc' i hi)⟩)⟩
        ·
          refine runS hA 8 [.b false, .v (.int .i64 ((j : Int) + 1))] xn (oc (show Value.bool (tryF qs m j) = .bool false by rw [ht1] <;> rfl) (oc (show Value.int .i64 (IntKind.i64.wrap ((j : Int) + 1)) = .int .i64 ((j : Int) + 1) from wrp (by omega)) on)) (by kernel_rfl) fun w13 hA9 => ?_
          clear hA; have hA := hA9; clear hA9
          refine revals hA (rc 24 (show .int .i64 ((j : Int) + 1) = .int .i64 ((j + 1 : Nat) : Int) by rw [show ((j + 1 : Nat) : Int) = (j : Int) + 1 by omega]) rn) (by kernel_rfl) fun hA9 => ?_
          clear hA; have hA := hA9; clear hA9
          exact again hJ (2 + M - (j + 1)) (⟨j + 1, cur'⟩) [true, true, true, true, true] hA (by omega) (by kernel_rfl) (⟨⟨by omega, rfl⟩, hcs', fun i hi => by rcases Nat.lt_succ_iff_lt_or_eq.1 hi with h9 | h9; exact hno i h9; rw [h9]; exact ht1⟩)
      ·
        have hPj : chP j = (fun s => s.2) := by rw [hj0]; rfl
        have hv8 : cu[j]? = some (.func (.func 111) #[] #[]) := by rw [hrc, hj0]; rfl
        refine runS hA 23 [.b true, .i, .y 4 (.func (.func 111) #[] #[]), .k 2, .k 2, .k 2] xn (oc (dec_t (show (((j : Int) : Int) < ((2 + M) : Int)) by omega)) (oc (show (0 : Int) ≤ ((j : Int) : Int) ∧ ((j : Int) : Int) < ((2 + M) : Int) by omega) (oc (show cu[0 + j * 1]? = some (.func (.func 111) #[] #[]) from by rw [Nat.zero_add, Nat.mul_one]; exact hv8) on))) (by kernel_rfl) fun w8 hA9 => ?_
        clear hA; have hA := hA9; clear hA9
        have hAs : At w w8 [⟨w3.heap.size, .cells cur 2 (0, 0)⟩] ([⟨w.heap.size, .cells #[.int .i64 m, .slice A n c] 44 (0, 0)⟩, ⟨mb, o⟩, ⟨w2.heap.size, .cells #[.int .i64 m, .slice A n c, .map (some mb)] 100 (0, 0)⟩, ⟨gc, .cells cu 108 (0, 0)⟩] ++ (boxes bs ++ [])) w8.heap.size := ((hA.atK [⟨w.heap.size, .cells #[.int .i64 m, .slice A n c] 44 (0, 0)⟩, ⟨mb, o⟩, ⟨w2.heap.size, .cells #[.int .i64 m, .slice A n c, .map (some mb)] 100 (0, 0)⟩, ⟨w3.heap.size, .cells cur 2 (0, 0)⟩, ⟨gc, .cells cu 108 (0, 0)⟩] (by kernel_rfl)).shift ((List.perm_middle (a := (⟨w3.heap.size, .cells cur 2 (0, 0)⟩ : KB)) (l₁ := [⟨w.heap.size, .cells #[.int .i64 m, .slice A n c] 44 (0, 0)⟩, ⟨mb, o⟩, ⟨w2.heap.size, .cells #[.int .i64 m, .slice A n c, .map (some mb)] 100 (0, 0)⟩]) (l₂ := [⟨gc, .cells cu 108 (0, 0)⟩] ++ (boxes bs ++ []))).symm)).resize
        refine callW hA [] on (stake1_any w w8 B w3.heap.size m A n c mb qs cur ([⟨w.heap.size, .cells #[.int .i64 m, .slice A n c] 44 (0, 0)⟩, ⟨mb, o⟩, ⟨w2.heap.size, .cells #[.int .i64 m, .slice A n c, .map (some mb)] 100 (0, 0)⟩, ⟨gc, .cells cu 108 (0, 0)⟩] ++ (boxes bs ++ [])) o hx hB V hAs (List.mem_of_getElem? (i := 1) (by rfl)) (by rw [← hl]; exact hmo) hcs (by rw [← hPj]; exact mt_few V j)) (by kernel_rfl) ?_
        rintro e w9 ⟨rfl, hz, cur', hcs', hcc', hAt'⟩
        refine ⟨.tuple #[], _, _, rfl, ((hAt'.shift (kn' := [⟨w.heap.size, .cells #[.int .i64 m, .slice A n c] 44 (0, 0)⟩, ⟨mb, o⟩, ⟨w2.heap.size, .cells #[.int .i64 m, .slice A n c, .map (some mb)] 100 (0, 0)⟩, ⟨w3.heap.size, .cells cur' 2 (0, 0)⟩, ⟨gc, .cells cu 108 (0, 0)⟩]) (rows' := (boxes bs ++ [])) (List.perm_middle (a := (⟨w3.heap.size, .cells cur' 2 (0, 0)⟩ : KB)) (l₁ := [⟨w.heap.size, .cells #[.int .i64 m, .slice A n c] 44 (0, 0)⟩, ⟨mb, o⟩, ⟨w2.heap.size, .cells #[.int .i64 m, .slice A n c, .map (some mb)] 100 (0, 0)⟩]) (l₂ := [⟨gc, .cells cu 108 (0, 0)⟩] ++ (boxes bs ++ [])))).resize), hz, fun hA => ?_⟩
        refine runS hA 6 [.k 2, .k 2, .k 2] xn on (by kernel_rfl) fun w10 hA9 => ?_
        clear hA; have hA := hA9; clear hA9
        have hSj := stkL_ok V j
        have hlj : (stkL qs (chP j)).length = n := hSj.1.trans hl
        have hIs := ints_cells (n := n) (hA.at_.ok ⟨w3.heap.size, .cells cur' 2 (0, 0)⟩ (List.mem_of_getElem? (i := 3) (by kernel_rfl))) hlj (by omega) (fun i hi => by rw [hPj]; exact hcc' i hi)
        refine callB hA [] on (winSurely_any w10 w10.heap.size m A n c (.map (some mb)) qs (some ⟨w3.heap.size, 0, none⟩) n (stkL qs (chP j)) ((hx.below hA.below hB).wide (Nat.le_trans hB hA.below.size)) (Nat.le_refl _) V hIs hSj) (by kernel_rfl) fun w11 hb11 hA9 => ?_
        clear hA; have hA := hA9; clear hA9
        refine runS hA 2 [.t 0] xn on (by kernel_rfl) fun w12 hA9 => ?_
        clear hA; have hA := hA9; clear hA9
        have hq9 := Bool.eq_false_or_eq_true ((tryF qs m j))
        rcases hq9 with ht2 | ht2
        ·
          refine runS hA 11 [.b true] xn (oc (show Value.bool (tryF qs m j) = .bool true by rw [ht2] <;> rfl) on) (by kernel_rfl) fun w13 hA9 => ?_
          clear hA; have hA := hA9; clear hA9
          refine leave hA (by kernel_rfl) fun hA9 => ?_
          clear hA; have hA := hA9; clear hA9
          refine runS hA 2 [] xn on (by kernel_rfl) fun w14 hA9 => ?_
          clear hA; have hA := hA9; clear hA9
          have hR := stkR_some (m := m) (by omega) hno ht2
          exact ret (v := .tuple #[.slice (some ⟨w3.heap.size, 0, none⟩) n n, .int .i64 0]) hA [] (by kernel_rfl) ⟨hA.below, fun h => absurd hE h, fun _ h => by (rw [hR] at h; cases h), fun _ L h => by (rw [hR] at h; cases h; exact ⟨w3.heap.size, rfl, own_cells (hA.at_.ok ⟨w3.heap.size, .cells cur' 2 (0, 0)⟩ (List.mem_of_getElem? (i := 3) (by kernel_rfl))) (hA.at_.low (kb := ⟨w3.heap.size, .cells cur' 2 (0, 0)⟩) (List.mem_of_getElem? (i := 3) (by kernel_rfl))) hcs' hlj (by omega) (fun i hi => by rw [hPj]; exact hcc' i hi)⟩)⟩
        ·
          refine runS hA 8 [.b false, .v (.int .i64 ((j : Int) + 1))] xn (oc (show Value.bool (tryF qs m j) = .bool false by rw [ht2] <;> rfl) (oc (show Value.int .i64 (IntKind.i64.wrap ((j : Int) + 1)) = .int .i64 ((j : Int) + 1) from wrp (by omega)) on)) (by kernel_rfl) fun w13 hA9 => ?_
          clear hA; have hA := hA9; clear hA9
          refine revals hA (rc 24 (show .int .i64 ((j : Int) + 1) = .int .i64 ((j + 1 : Nat) : Int) by rw [show ((j + 1 : Nat) : Int) = (j : Int) + 1 by omega]) rn) (by kernel_rfl) fun hA9 => ?_
          clear hA; have hA := hA9; clear hA9
          exact again hJ (2 + M - (j + 1)) (⟨j + 1, cur'⟩) [true, true, true, true, true] hA (by omega) (by kernel_rfl) (⟨⟨by omega, rfl⟩, hcs', fun i hi => by rcases Nat.lt_succ_iff_lt_or_eq.1 hi with h9 | h9; exact hno i h9; rw [h9]; exact ht2⟩)
      ·
        have hq9 : ∃ bx, bs[r]? = some bx := ⟨_, List.getElem?_eq_getElem (show r < bs.length by omega)⟩
        obtain ⟨bx, hbx⟩ := hq9
        have hbm8 := boxes_mem hbx
        have hPj : chP j = (fun s => s.1 == (r : Int)) := by rw [hj0]; rfl
        have hv8 : cu[j]? = some (.func (.func 112) #[] #[.pointer (some ⟨bx, 0, none⟩)]) := by rw [hrc, hj0]; show (bs.map _)[r]? = _; rw [List.getElem?_map, hbx]; rfl
        refine runS hA 23 [.b true, .i, .y 4 (.func (.func 112) #[] #[.pointer (some ⟨bx, 0, none⟩)]), .k 2, .k 2, .k 2] xn (oc (dec_t (show (((j : Int) : Int) < ((2 + M) : Int)) by omega)) (oc (show (0 : Int) ≤ ((j : Int) : Int) ∧ ((j : Int) : Int) < ((2 + M) : Int) by omega) (oc (show cu[0 + j * 1]? = some (.func (.func 112) #[] #[.pointer (some ⟨bx, 0, none⟩)]) from by rw [Nat.zero_add, Nat.mul_one]; exact hv8) on))) (by kernel_rfl) fun w8 hA9 => ?_
        clear hA; have hA := hA9; clear hA9
        have hAs : At w w8 [⟨w3.heap.size, .cells cur 2 (0, 0)⟩] ([⟨w.heap.size, .cells #[.int .i64 m, .slice A n c] 44 (0, 0)⟩, ⟨mb, o⟩, ⟨w2.heap.size, .cells #[.int .i64 m, .slice A n c, .map (some mb)] 100 (0, 0)⟩, ⟨gc, .cells cu 108 (0, 0)⟩] ++ (boxes bs ++ [])) w8.heap.size := ((hA.atK [⟨w.heap.size, .cells #[.int .i64 m, .slice A n c] 44 (0, 0)⟩, ⟨mb, o⟩, ⟨w2.heap.size, .cells #[.int .i64 m, .slice A n c, .map (some mb)] 100 (0, 0)⟩, ⟨w3.heap.size, .cells cur 2 (0, 0)⟩, ⟨gc, .cells cu 108 (0, 0)⟩] (by kernel_rfl)).shift ((List.perm_middle (a := (⟨w3.heap.size, .cells cur 2 (0, 0)⟩ : KB)) (l₁ := [⟨w.heap.size, .cells #[.int .i64 m, .slice A n c] 44 (0, 0)⟩, ⟨mb, o⟩, ⟨w2.heap.size, .cells #[.int .i64 m, .slice A n c, .map (some mb)] 100 (0, 0)⟩]) (l₂ := [⟨gc, .cells cu 108 (0, 0)⟩] ++ (boxes bs ++ []))).symm)).resize
        refine callW hA [] on (stake2_any w w8 B w3.heap.size m A n c mb qs cur ([⟨w.heap.size, .cells #[.int .i64 m, .slice A n c] 44 (0, 0)⟩, ⟨mb, o⟩, ⟨w2.heap.size, .cells #[.int .i64 m, .slice A n c, .map (some mb)] 100 (0, 0)⟩, ⟨gc, .cells cu 108 (0, 0)⟩] ++ (boxes bs ++ [])) o (r : Int) bx (List.mem_append_right _ (List.mem_append_left _ hbm8)) hx hB V hAs (List.mem_of_getElem? (i := 1) (by rfl)) (by rw [← hl]; exact hmo) hcs (by rw [← hPj]; exact mt_few V j)) (by kernel_rfl) ?_
        rintro e w9 ⟨rfl, hz, cur', hcs', hcc', hAt'⟩
        refine ⟨.tuple #[], _, _, rfl, ((hAt'.shift (kn' := [⟨w.heap.size, .cells #[.int .i64 m, .slice A n c] 44 (0, 0)⟩, ⟨mb, o⟩, ⟨w2.heap.size, .cells #[.int .i64 m, .slice A n c, .map (some mb)] 100 (0, 0)⟩, ⟨w3.heap.size, .cells cur' 2 (0, 0)⟩, ⟨gc, .cells cu 108 (0, 0)⟩]) (rows' := (boxes bs ++ [])) (List.perm_middle (a := (⟨w3.heap.size, .cells cur' 2 (0, 0)⟩ : KB)) (l₁ := [⟨w.heap.size, .cells #[.int .i64 m, .slice A n c] 44 (0, 0)⟩, ⟨mb, o⟩, ⟨w2.heap.size, .cells #[.int .i64 m, .slice A n c, .map (some mb)] 100 (0, 0)⟩]) (l₂ := [⟨gc, .cells cu 108 (0, 0)⟩] ++ (boxes bs ++ [])))).resize), hz, fun hA => ?_⟩
        refine runS hA 6 [.k 2, .k 2, .k 2] xn on (by kernel_rfl) fun w10 hA9 => ?_
        clear hA; have hA := hA9; clear hA9
        have hSj := stkL_ok V j
        have hlj : (stkL qs (chP j)).length = n := hSj.1.trans hl
        have hIs := ints_cells (n := n) (hA.at_.ok ⟨w3.heap.size, .cells cur' 2 (0, 0)⟩ (List.mem_of_getElem? (i := 3) (by kernel_rfl))) hlj (by omega) (fun i hi => by rw [hPj]; exact hcc' i hi)
        refine callB hA [] on (winSurely_any w10 w10.heap.size m A n c (.map (some mb)) qs (some ⟨w3.heap.size, 0, none⟩) n (stkL qs (chP j)) ((hx.below hA.below hB).wide (Nat.le_trans hB hA.below.size)) (Nat.le_refl _) V hIs hSj) (by kernel_rfl) fun w11 hb11 hA9 => ?_
        clear hA; have hA := hA9; clear hA9
        refine runS hA 2 [.t 0] xn on (by kernel_rfl) fun w12 hA9 => ?_
        clear hA; have hA := hA9; clear hA9
        have hq9 := Bool.eq_false_or_eq_true ((tryF qs m j))
        rcases hq9 with ht3 | ht3
        ·
          refine runS hA 11 [.b true] xn (oc (show Value.bool (tryF qs m j) = .bool true by rw [ht3] <;> rfl) on) (by kernel_rfl) fun w13 hA9 => ?_
          clear hA; have hA := hA9; clear hA9
          refine leave hA (by kernel_rfl) fun hA9 => ?_
          clear hA; have hA := hA9; clear hA9
          refine runS hA 2 [] xn on (by kernel_rfl) fun w14 hA9 => ?_
          clear hA; have hA := hA9; clear hA9
          have hR := stkR_some (m := m) (by omega) hno ht3
          exact ret (v := .tuple #[.slice (some ⟨w3.heap.size, 0, none⟩) n n, .int .i64 0]) hA [] (by kernel_rfl) ⟨hA.below, fun h => absurd hE h, fun _ h => by (rw [hR] at h; cases h), fun _ L h => by (rw [hR] at h; cases h; exact ⟨w3.heap.size, rfl, own_cells (hA.at_.ok ⟨w3.heap.size, .cells cur' 2 (0, 0)⟩ (List.mem_of_getElem? (i := 3) (by kernel_rfl))) (hA.at_.low (kb := ⟨w3.heap.size, .cells cur' 2 (0, 0)⟩) (List.mem_of_getElem? (i := 3) (by kernel_rfl))) hcs' hlj (by omega) (fun i hi => by rw [hPj]; exact hcc' i hi)⟩)⟩
        ·
          refine runS hA 8 [.b false, .v (.int .i64 ((j : Int) + 1))] xn (oc (show Value.bool (tryF qs m j) = .bool false by rw [ht3] <;> rfl) (oc (show Value.int .i64 (IntKind.i64.wrap ((j : Int) + 1)) = .int .i64 ((j : Int) + 1) from wrp (by omega)) on)) (by kernel_rfl) fun w13 hA9 => ?_
          clear hA; have hA := hA9; clear hA9
          refine revals hA (rc 24 (show .int .i64 ((j : Int) + 1) = .int .i64 ((j + 1 : Nat) : Int) by rw [show ((j + 1 : Nat) : Int) = (j : Int) + 1 by omega]) rn) (by kernel_rfl) fun hA9 => ?_
          clear hA; have hA := hA9; clear hA9
          exact again hJ (2 + M - (j + 1)) (⟨j + 1, cur'⟩) [true, true, true, true, true] hA (by omega) (by kernel_rfl) (⟨⟨by omega, rfl⟩, hcs', fun i hi => by rcases Nat.lt_succ_iff_lt_or_eq.1 hi with h9 | h9; exact hno i h9; rw [h9]; exact ht3⟩)
  case neg =>
    refine callB hA [] on (deskOf_bad w1 B m A n c qs (hx.below hA.below hB) (Nat.le_trans hB hA.size) hr hE) (by kernel_rfl) fun w2 hb2 hA9 => ?_
    clear hA; have hA := hA9; clear hA9
    refine runS hA 15 [.k 1, .k 1, .k 1, .t 0] xn on (by kernel_rfl) fun w3 hA9 => ?_
    clear hA; have hA := hA9; clear hA9
    by_cases ht4 : (mktE m qs) = (0 : Int)
    case pos =>
      omega
    case neg =>
      refine runS hA 10 [.b true] xn (oc (ne_t ht4) on) (by kernel_rfl) fun w4 hA9 => ?_
      clear hA; have hA := hA9; clear hA9
      exact ret (v := .tuple #[.slice none 0 0, .int .i64 (mktE m qs)]) hA [] (by kernel_rfl) ⟨hA.below, fun _ => rfl, fun h => absurd h hE, fun h => absurd h hE⟩
end Go.Proofs.Ytfidkgpimlpdbaa
