/- Parts of a proof: OAB. -/
import Derived.Test.YtfidkgpimlpdbaaF12

/- odds: stake, kind 1. -/
namespace Go.Proofs.Ytfidkgpimlpdbaa
open Go.RowKit Go.Shelf

set_option maxHeartbeats 40000000 in
set_option maxRecDepth 20000 in
theorem stake1_any (w0 w : World) (B g : Nat) (m : Int) (A : Option Addr) (n c mb : Nat) (qs : List Qt) (cur : Array Value) (rows : List KB) (o : Obj) (hx : QtsAt w0 B A n qs) (hB : B ≤ w0.heap.size) (V : ValidM m qs) (hA0 : At w0 w [⟨g, .cells cur 2 (0, 0)⟩] rows w.heap.size)
    (hmr : (⟨mb, o⟩ : KB) ∈ rows) (hmo : MapO sideV idxV o (bestM qs n)) (hcs : cur.size = n) (hfew : (mtM qs (fun s => s.2)).length ≤ 5) :
    Calls Try.prog 91 #[.agg #[.int .i64 m, .slice A n c, .map (some mb)], .slice (some ⟨g, 0, none⟩) n n, .func (.func 111) #[] #[]] w fun e w' => e = .returned (.tuple #[]) ∧ w.heap.size ≤ w'.heap.size ∧ ∃ cur' : Array Value, cur'.size = n ∧ (∀ j, j < n → cur'[j]? = some (.int .i64 ((stkL qs (fun s => s.2))[j]?.getD 0))) ∧ At w0 w' [⟨g, .cells cur' 2 (0, 0)⟩] rows w'.heap.size := by
  have hl := hx.1
  have hn12 := V.len
  obtain ⟨es, clock, rfl, he, hec, hen⟩ := hmo
  have hq9 := ent_of he hec hen
  obtain ⟨T0, hT0, hTm, hTn, hTc⟩ := hq9
  have hok := mt_oks (p := (fun s => s.2)) V
  refine enterK 69 Try.func91 (by kernel_rfl) hA0 fun hA => ?_
  refine runS hA 9 [.k 1] xn on (by kernel_rfl) fun w1 hA9 => ?_
  clear hA; have hA := hA9; clear hA9
  have hcmb := hA.at_.rok _ hmr
  have hAp := hA.atK [⟨g, .cells cur 2 (0, 0)⟩, ⟨w.heap.size, .cells #[.int .i64 m, .slice A n c, .map (some mb)] 100 (0, 0)⟩] (by kernel_rfl)
  refine call hA [] on (clone_k mb es clock w1 hcmb) (by kernel_rfl) (by rintro e v ⟨mc, rfl, hbm, hmc, hmg⟩; exact hbm) ?_
  rintro e w2 ⟨mc, rfl, hbm, hmc, hmg⟩
  refine ⟨_, rfl, fun hA => ?_⟩
  have hAq := At.know hAp hbm hmc hmg
  refine reknow ⟨[⟨g, .cells cur 2 (0, 0)⟩, ⟨w.heap.size, .cells #[.int .i64 m, .slice A n c, .map (some mb)] 100 (0, 0)⟩, ⟨mc, .map es clock⟩], w2.heap.size, [], [], [], [], []⟩ (hAq) (Nat.zero_le _) fun hA => ?_
  refine runS hA 7 [] xn on (by kernel_rfl) fun w3 hA9 => ?_
  clear hA; have hA := hA9; clear hA9
  refine rngMap (mt := 98) (et := 3) (kt := 129) (b := mc) (es := es) (clock := clock) hA (hA.at_.ok ⟨mc, .map es clock⟩ (List.mem_of_getElem? (i := 2) (by kernel_rfl))) (by kernel_rfl) fun w4 hzr1 hA9 => ?_
  clear hA; have hA := hA9; clear hA9
  refine runS hA 3 [] xn on (by kernel_rfl) fun w5 hA9 => ?_
  clear hA; have hA := hA9; clear hA9
  have hLs : Lp (fun s => s.2) T0 T0 [] := Lp.start hTn
  refine loop (γ := List Ent × Array MapEntry × Array Nat) (fun ⟨T, es1, seen⟩ => [(1, .slice (some ⟨g, 0, none⟩) n n), (2, .func (.func 111) #[] #[]), (3, .pointer (some ⟨w.heap.size, 0, none⟩)), (6, .map (some mc)), (18, .pointer (some ⟨w2.heap.size, 0, none⟩))]) (fun ⟨T, es1, seen⟩ => [⟨g, .cells cur 2 (0, 0)⟩, ⟨w.heap.size, .cells #[.int .i64 m, .slice A n c, .map (some mb)] 100 (0, 0)⟩, ⟨mc, .map es1 clock⟩, ⟨w2.heap.size, .mapIter (some mc) clock seen clock⟩]) (fun _ => rows) (fun g ⟨T, es1, seen⟩ wr => Lp (fun s => s.2) T0 T seen.toList ∧ entL es1 T ∧ g = leftT T seen.toList) (leftT T0 []) ⟨T0, es, #[]⟩ [true, true, true, true] hA (by kernel_rfl) (⟨hLs, hT0, rfl⟩) ?_
  rintro _ ⟨T, es1, seen⟩ wr ⟨hL, hE, rfl⟩ J hJ hA
  have hTs := hL.sub
  have hc1 := ent_lt hE (fun t ht => hTc t (hTs.subset ht))
  have hn1 := ent_nd hE hL.nd
  refine runS hA 2 [] xn on (by kernel_rfl) fun w6 hA9 => ?_
  clear hA; have hA := hA9; clear hA9
  refine nxtMap (ty := 0) (r := w2.heap.size) (seen := seen) (es := es1) (clock := clock) (b := mc) hA 3 (hA.at_.ok ⟨mc, .map es1 clock⟩ (List.mem_of_getElem? (i := 2) (by kernel_rfl))) hc1 (by kernel_rfl) (fun hall hA => ?_) (fun i wn hi hns hwz hwh hA => ?_)
  ·
    refine runS hA 7 [] xn on (by kernel_rfl) fun w7 hA9 => ?_
    clear hA; have hA := hA9; clear hA9
    refine leave hA (by kernel_rfl) fun hA9 => ?_
    clear hA; have hA := hA9; clear hA9
    have hT1 := all_seen hL hE hall
    have hTM : T.map (·.2) = mtM qs (fun s => s.2) := by rw [hT1]; refine (filter_snd (fun s => s.2) T0).trans ?_; rw [hTm, ← hl]; rfl
    have hTI : T.map (·.2.2) = (mtM qs (fun s => s.2)).map (·.2) := by rw [← hTM, List.map_map]; rfl
    have hTl : T.length ≤ 5 := by have := congrArg List.length hTM; rw [List.length_map] at this; omega
    have hokT : Oks qs (T.map (·.2.2)) := by rw [hTI]; exact hok
    have hsz1 := hE.size
    have hTq := lt_of_T (p := (fun s => s.2)) hl hTI
    refine runS hA 11 [] xn on (by kernel_rfl) fun w8 hA9 => ?_
    clear hA; have hA := hA9; clear hA9
    refine rngMap (mt := 98) (et := 3) (kt := 129) (b := mc) (es := es1) (clock := clock) hA (hA.at_.ok ⟨mc, .map es1 clock⟩ (List.mem_of_getElem? (i := 2) (by kernel_rfl))) (by kernel_rfl) fun w9 hzr2 hA9 => ?_
    clear hA; have hA := hA9; clear hA9
    refine runS hA 3 [] xn on (by kernel_rfl) fun w10 hA9 => ?_
    clear hA; have hA := hA9; clear hA9
    refine loop (γ := List Nat × Array Nat) (fun ⟨is, sn⟩ => [(1, .slice (some ⟨g, 0, none⟩) n n), (2, .func (.func 111) #[] #[]), (3, .pointer (some ⟨w.heap.size, 0, none⟩)), (6, .map (some mc)), (8, .int .i64 (lcmE qs (is.map (plT T)))), (18, .pointer (some ⟨w2.heap.size, 0, none⟩)), (30, .pointer (some ⟨w6.heap.size, 0, none⟩))]) (fun ⟨is, sn⟩ => [⟨g, .cells cur 2 (0, 0)⟩, ⟨w.heap.size, .cells #[.int .i64 m, .slice A n c, .map (some mb)] 100 (0, 0)⟩, ⟨mc, .map es1 clock⟩, ⟨w2.heap.size, .mapIter (some mc) clock seen clock⟩, ⟨w6.heap.size, .mapIter (some mc) clock sn clock⟩]) (fun _ => rows) (fun g ⟨is, sn⟩ wt => is.Nodup ∧ (∀ i ∈ is, i < T.length) ∧ g = T.length - is.length ∧ (∀ x, x ∈ sn.toList ↔ x ∈ is.map (bornE es1))) T.length ⟨[], #[]⟩ [true, true, true, true, true] hA (by kernel_rfl) (⟨List.nodup_nil, (fun _ h => nomatch h), rfl, fun x => by simp⟩) ?_
    rintro _ ⟨is, sn⟩ wt ⟨hnd, hin, rfl, hsn⟩ J2 hJ2 hA
    have hob := oks_sub hokT hin
    have hlb := lcmE_pos hob
    have hln := nodup_len _ is hnd hin
    have hpw := pow_few (k := (is.map (plT T)).length) (by rw [List.length_map]; omega)
    refine runS hA 2 [] xn on (by kernel_rfl) fun w11 hA9 => ?_
    clear hA; have hA := hA9; clear hA9
    refine nxtMap (ty := 0) (r := w6.heap.size) (seen := sn) (es := es1) (clock := clock) (b := mc) hA 4 (hA.at_.ok ⟨mc, .map es1 clock⟩ (List.mem_of_getElem? (i := 2) (by kernel_rfl))) hc1 (by kernel_rfl) (fun hall hA => ?_) (fun i wn hi hns hwz hwh hA => ?_)
    ·
      refine runS hA 7 [] xn on (by kernel_rfl) fun w12 hA9 => ?_
      clear hA; have hA := hA9; clear hA9
      refine leave hA (by kernel_rfl) fun hA9 => ?_
      clear hA; have hA := hA9; clear hA9
      have hpm := all_perm hsz1 hn1 hnd hin hsn hall
      have htm : lcmE qs (is.map (plT T)) = lcmE qs ((mtM qs (fun s => s.2)).map (·.2)) := by rw [← hTI, ← pl_range]; exact lcmE_perm (hpm.map _) hob
      rw [htm] at hlb
      refine revals hA (rc 8 (show .int .i64 (lcmE qs (is.map (plT T))) = .int .i64 (lcmE qs ((mtM qs (fun s => s.2)).map (·.2))) by rw [htm]) rn) (by kernel_rfl) fun hA9 => ?_
      clear hA; have hA := hA9; clear hA9
      refine runS hA 5 [] xn on (by kernel_rfl) fun w13 hA9 => ?_
      clear hA; have hA := hA9; clear hA9
      obtain ⟨ii, hii, -, hz9⟩ := infoI
      have hA5 := hA.atK [⟨g, .cells cur 2 (0, 0)⟩, ⟨w.heap.size, .cells #[.int .i64 m, .slice A n c, .map (some mb)] 100 (0, 0)⟩, ⟨mc, .map es1 clock⟩, ⟨w2.heap.size, .mapIter (some mc) clock seen clock⟩, ⟨w6.heap.size, .mapIter (some mc) clock sn clock⟩] (by kernel_rfl)
      have hok5 := hA5.ok ⟨g, .cells cur 2 (0, 0)⟩ List.mem_cons_self
      have hrunC : (Builtin.clear_ #[45] 0 #[.slice (some ⟨g, 0, none⟩) n n]).run Try.prog w13 = .ok (.tuple #[]) (w13.setCells g 0 (List.replicate n (.int .i64 0))) := by
        have hq9 := Nat.eq_zero_or_pos n
        rcases hq9 with h0 | h0
        · subst h0; exact run_clear_zero (P := Try.prog) w13 45 2 0 (.int .i64 0) Try.underlying45 (fun w => by simp [zeroValue, typeInfo, hii, hz9]) rfl g 0 0
        · exact Lib.run_clear_slice (P := Try.prog) w13 45 2 0 (.int .i64 0) Try.underlying45 (fun w => by simp [zeroValue, typeInfo, hii, hz9]) rfl rfl g 0 n n h0 (fun j hj => by have hq : 0 + j < cur.size := (by omega); rw [cell_of_obj (a := ⟨g, 0 + j, none⟩) (v := cur[0 + j]'hq) hok5 rfl (Array.getElem?_eq_getElem hq)]; rfl) (fun j hj => by have h9 : w13.heap[g]? = some (.cells cur 2 (0, 0)) := hok5; unfold World.frozen?; rw [h9]; simp)
      have hq9 := At.setKn (List.replicate n (.int .i64 0)) 0 w13 cur hA5 (by simp; omega)
      obtain ⟨cu1, hu1, hu2, hA6⟩ := hq9
      refine opw [] on (s := clrSem 45 0 (.slice (some ⟨g, 0, none⟩) n n)) (by kernel_rfl) (nx := .value (.tuple #[])) (val_run hrunC) (.inl rfl) hA6.resize (Nat.zero_le _) fun hA => ?_
      have hq9 : ∃ x, w13.setCells g 0 (List.replicate n (.int .i64 0)) = x := ⟨_, rfl⟩
      obtain ⟨wc, hwc⟩ := hq9
      rw [hwc] at hA hA6
      rw [hwc]
      have hc0 : ∀ j, j < n → cu1[j]? = some (.int .i64 0) := fun j hj => by rw [hu2, if_pos (by simp; omega), List.getElem?_replicate, if_pos (by omega)]
      refine runS hA 5 [] xn on (by kernel_rfl) fun w14 hA9 => ?_
      clear hA; have hA := hA9; clear hA9
      refine rngMap (mt := 98) (et := 3) (kt := 129) (b := mc) (es := es1) (clock := clock) hA (hA.at_.ok ⟨mc, .map es1 clock⟩ (List.mem_of_getElem? (i := 2) (by kernel_rfl))) (by kernel_rfl) fun w15 hzr3 hA9 => ?_
      clear hA; have hA := hA9; clear hA9
      refine runS hA 3 [] xn on (by kernel_rfl) fun w16 hA9 => ?_
      clear hA; have hA := hA9; clear hA9
      refine loop (γ := List Nat × Array Nat × Array Value) (fun ⟨is, sm, cu⟩ => [(1, .slice (some ⟨g, 0, none⟩) n n), (2, .func (.func 111) #[] #[]), (3, .pointer (some ⟨w.heap.size, 0, none⟩)), (6, .map (some mc)), (8, .int .i64 (lcmE qs ((mtM qs (fun s => s.2)).map (·.2)))), (18, .pointer (some ⟨w2.heap.size, 0, none⟩)), (30, .pointer (some ⟨w6.heap.size, 0, none⟩)), (47, .pointer (some ⟨wc.heap.size, 0, none⟩))]) (fun ⟨is, sm, cu⟩ => [⟨g, .cells cu 2 (0, 0)⟩, ⟨w.heap.size, .cells #[.int .i64 m, .slice A n c, .map (some mb)] 100 (0, 0)⟩, ⟨mc, .map es1 clock⟩, ⟨w2.heap.size, .mapIter (some mc) clock seen clock⟩, ⟨w6.heap.size, .mapIter (some mc) clock sn clock⟩, ⟨wc.heap.size, .mapIter (some mc) clock sm clock⟩]) (fun _ => rows) (fun g ⟨is, sm, cu⟩ wv => is.Nodup ∧ (∀ i ∈ is, i < T.length) ∧ g = T.length - is.length ∧ (∀ x, x ∈ sm.toList ↔ x ∈ is.map (bornE es1)) ∧ cu.size = n ∧ (∀ j, j < n → cu[j]? = some (.int .i64 (if j ∈ is.map (plT T) then stkV qs (fun s => s.2) j else 0)))) T.length ⟨[], #[], cu1⟩ [true, true, true, true, true, true] hA (by kernel_rfl) (⟨List.nodup_nil, (fun _ h => nomatch h), rfl, fun x => by simp, by omega, fun j hj => by rw [hc0 j hj, if_neg (by simp)]⟩) ?_
      rintro _ ⟨is, sm, cu⟩ wv ⟨hnd, hin, rfl, hsn, hcz, hcc⟩ J3 hJ3 hA
      refine runS hA 2 [] xn on (by kernel_rfl) fun w17 hA9 => ?_
      clear hA; have hA := hA9; clear hA9
      refine nxtMap (ty := 0) (r := wc.heap.size) (seen := sm) (es := es1) (clock := clock) (b := mc) hA 5 (hA.at_.ok ⟨mc, .map es1 clock⟩ (List.mem_of_getElem? (i := 2) (by kernel_rfl))) hc1 (by kernel_rfl) (fun hall hA => ?_) (fun i wn hi hns hwz hwh hA => ?_)
      ·
        refine runS hA 7 [] xn on (by kernel_rfl) fun w18 hA9 => ?_
        clear hA; have hA := hA9; clear hA9
        refine leave hA (by kernel_rfl) fun hA9 => ?_
        clear hA; have hA := hA9; clear hA9
        refine runS hA 1 [] xn on (by kernel_rfl) fun w19 hA9 => ?_
        clear hA; have hA := hA9; clear hA9
        have hpm := all_perm hsz1 hn1 hnd hin hsn hall
        have hfin := fin_cells (p := (fun s => s.2)) hl hTI hpm hcc
        have hAe := hA.atK [⟨g, .cells cu 2 (0, 0)⟩, ⟨w.heap.size, .cells #[.int .i64 m, .slice A n c, .map (some mb)] 100 (0, 0)⟩, ⟨mc, .map es1 clock⟩, ⟨w2.heap.size, .mapIter (some mc) clock seen clock⟩, ⟨w6.heap.size, .mapIter (some mc) clock sn clock⟩, ⟨wc.heap.size, .mapIter (some mc) clock sm clock⟩] (by kernel_rfl)
        exact ret (v := .tuple #[]) hA [] (by kernel_rfl) ⟨rfl, Nat.le_of_lt (hA.at_.lt (kb := ⟨w.heap.size, .cells #[.int .i64 m, .slice A n c, .map (some mb)] 100 (0, 0)⟩) (List.mem_of_getElem? (i := 1) (by kernel_rfl))), cu, hcz, hfin, (hAe.sub (List.Sublist.cons_cons _ (List.nil_sublist _))).resize⟩
      ·
        have hq9 := hE.get hi
        obtain ⟨t, ht, hbe, hk9, hv9⟩ := hq9
        refine revals hA (rc 48 (show .tuple #[.bool true, es1[i].key, es1[i].val] = .tuple #[.bool true, .agg #[.int .i64 t.2.1.1, .bool t.2.1.2], .int .i64 (t.2.2 : Int)] by rw [hk9, hv9]; rfl) rn) (by kernel_rfl) fun hA9 => ?_
        clear hA; have hA := hA9; clear hA9
        refine runS hA 10 [] xn on (by kernel_rfl) fun w18 hA9 => ?_
        clear hA; have hA := hA9; clear hA9
        refine entMap (r := wc.heap.size) (seen := sm) (es := es1) (clock := clock) (b := mc) (i := i) hA 5 hi (hA.at_.ok ⟨mc, .map es1 clock⟩ (List.mem_of_getElem? (i := 2) (by kernel_rfl))) hn1 (by kernel_rfl) fun hA9 => ?_
        clear hA; have hA := hA9; clear hA9
        refine revals hA (rc 50 (show .tuple #[es1[i].key, es1[i].val] = .tuple #[.agg #[.int .i64 t.2.1.1, .bool t.2.1.2], .int .i64 (t.2.2 : Int)] by rw [hk9, hv9]; rfl) rn) (by kernel_rfl) fun hA9 => ?_
        clear hA; have hA := hA9; clear hA9
        have hni := not_seen hi (fun hm => hns ((hsn _).2 hm))
        have hnd' : (i :: is).Nodup := List.nodup_cons.2 ⟨hni, hnd⟩
        have hin' := in_cons (show i < T.length by omega) hin
        have hln' := nodup_len _ _ hnd' hin'
        rw [List.length_cons] at hln'
        have hpl := pl_mem ht
        have htn := hTq i t ht
        have hsn' := seen_push hi hsn
        have hqo := strict_ok V (i := t.2.2) (by omega)
        have hbo := bnd_ok hqo.1 hqo.2
        have hq9 := hx.at (htn)
        obtain ⟨b, off, rfl, hlb, hcb⟩ := hq9
        have k0 := hcb 0 _ rfl
        have k1 := hcb 1 _ rfl
        have k2 := hcb 2 _ rfl
        have k3 := hcb 3 _ rfl
        refine runS hA 12 [.k 1, .i, .x (.int .i64 ((qs[t.2.2]?.getD noQ).r)), .x (.int .i64 ((qs[t.2.2]?.getD noQ).n)), .x (.int .i64 ((qs[t.2.2]?.getD noQ).d)), .x (.bool ((qs[t.2.2]?.getD noQ).lay))] (xc (a := ⟨b, off + t.2.2 * 4, none⟩) ⟨Nat.lt_of_lt_of_le hlb hB, k0⟩ (xc (a := ⟨b, off + t.2.2 * 4 + 1, none⟩) ⟨Nat.lt_of_lt_of_le hlb hB, k1⟩ (xc (a := ⟨b, off + t.2.2 * 4 + 2, none⟩) ⟨Nat.lt_of_lt_of_le hlb hB, k2⟩ (xc (a := ⟨b, off + t.2.2 * 4 + 3, none⟩) ⟨Nat.lt_of_lt_of_le hlb hB, k3⟩ xn)))) (oc (show (0 : Int) ≤ ((t.2.2 : Int) : Int) ∧ ((t.2.2 : Int) : Int) < (n : Int) by omega) on) (by kernel_rfl) fun w19 hA9 => ?_
        clear hA; have hA := hA9; clear hA9
        refine callB hA [] on (bound_any w19 ((qs[t.2.2]?.getD noQ).r) ((qs[t.2.2]?.getD noQ).n) ((qs[t.2.2]?.getD noQ).d) ((qs[t.2.2]?.getD noQ).lay) (by omega) (by omega)) (by kernel_rfl) fun w20 hb20 hA9 => ?_
        clear hA; have hA := hA9; clear hA9
        refine runS hA 4 [.k 6, .k 6] xn on (by kernel_rfl) fun w21 hA9 => ?_
        clear hA; have hA := hA9; clear hA9
        refine draw hA [false, true, true, true, true, true, true] [0, 1, 2, 3, 4, 5, 6, 7, 8, 9, 10] (by kernel_rfl) (by kernel_rfl) fun hA9 => ?_
        clear hA; have hA := hA9; clear hA9
        have hq0 := Int.ediv_nonneg (show 0 ≤ (lcmE qs ((mtM qs (fun s => s.2)).map (·.2))) by omega) (show 0 ≤ (bndF (qs[t.2.2]?.getD noQ).n (qs[t.2.2]?.getD noQ).d).2 by omega)
        have hq1 := Int.ediv_le_self (bndF (qs[t.2.2]?.getD noQ).n (qs[t.2.2]?.getD noQ).d).2 (show 0 ≤ (lcmE qs ((mtM qs (fun s => s.2)).map (·.2))) by omega)
        have hq2 := Int.mul_nonneg hq0 hbo.1
        have hq3 := Int.mul_le_mul hq1 (show (bndF (qs[t.2.2]?.getD noQ).n (qs[t.2.2]?.getD noQ).d).1 ≤ 10 by omega) hbo.1 (show 0 ≤ (lcmE qs ((mtM qs (fun s => s.2)).map (·.2))) by omega)
        refine runS hA 13 [.t 0, .t 1, .t 2, .t 3, .t 4, .k 5, .t 5, .v (.int .i64 ((lcmE qs ((mtM qs (fun s => s.2)).map (·.2))) / ((bndF ((qs[t.2.2]?.getD noQ).n) ((qs[t.2.2]?.getD noQ).d)).2))), .z, .t 6, .t 7, .k 5, .t 8, .v (.int .i64 (((lcmE qs ((mtM qs (fun s => s.2)).map (·.2))) / ((bndF ((qs[t.2.2]?.getD noQ).n) ((qs[t.2.2]?.getD noQ).d)).2)) * ((bndF ((qs[t.2.2]?.getD noQ).n) ((qs[t.2.2]?.getD noQ).d)).1))), .t 9, .i, .h 10, .y 0 ((cu[t.2.2]?.getD undef)), .b true] xn (oc (show ((bndF ((qs[t.2.2]?.getD noQ).n) ((qs[t.2.2]?.getD noQ).d)).2) ≠ (0 : Int) by omega) (oc (show Value.int .i64 (IntKind.i64.wrap (Int.tdiv (lcmE qs ((mtM qs (fun s => s.2)).map (·.2))) ((bndF ((qs[t.2.2]?.getD noQ).n) ((qs[t.2.2]?.getD noQ).d)).2))) = .int .i64 ((lcmE qs ((mtM qs (fun s => s.2)).map (·.2))) / ((bndF ((qs[t.2.2]?.getD noQ).n) ((qs[t.2.2]?.getD noQ).d)).2)) from wrq (by omega)) (oc (show Value.int .i64 (IntKind.i64.wrap (((lcmE qs ((mtM qs (fun s => s.2)).map (·.2))) / ((bndF ((qs[t.2.2]?.getD noQ).n) ((qs[t.2.2]?.getD noQ).d)).2)) * ((bndF ((qs[t.2.2]?.getD noQ).n) ((qs[t.2.2]?.getD noQ).d)).1))) = .int .i64 (((lcmE qs ((mtM qs (fun s => s.2)).map (·.2))) / ((bndF ((qs[t.2.2]?.getD noQ).n) ((qs[t.2.2]?.getD noQ).d)).2)) * ((bndF ((qs[t.2.2]?.getD noQ).n) ((qs[t.2.2]?.getD noQ).d)).1)) from wrp (by omega)) (oc (show (0 : Int) ≤ ((t.2.2 : Int) : Int) ∧ ((t.2.2 : Int) : Int) < (n : Int) by omega) (oc (show cu[0 + t.2.2 * 1]? = some ((cu[t.2.2]?.getD undef)) from by rw [Nat.zero_add, Nat.mul_one]; exact old_cell hcz htn) on))))) (by kernel_rfl) fun w22 hA9 => ?_
        clear hA; have hA := hA9; clear hA9
        have hs9 : (cu.setIfInBounds (0 + t.2.2 * 1) (.int .i64 (((lcmE qs ((mtM qs (fun s => s.2)).map (·.2))) / ((bndF ((qs[t.2.2]?.getD noQ).n) ((qs[t.2.2]?.getD noQ).d)).2)) * ((bndF ((qs[t.2.2]?.getD noQ).n) ((qs[t.2.2]?.getD noQ).d)).1)))) = cu.setIfInBounds t.2.2 (.int .i64 (((lcmE qs ((mtM qs (fun s => s.2)).map (·.2))) / (bndF (qs[t.2.2]?.getD noQ).n (qs[t.2.2]?.getD noQ).d).2) * (bndF (qs[t.2.2]?.getD noQ).n (qs[t.2.2]?.getD noQ).d).1)) := by rw [Nat.zero_add, Nat.mul_one]
        have hAk9 : At w0 w22 [⟨g, .cells (cu.setIfInBounds t.2.2 (.int .i64 (((lcmE qs ((mtM qs (fun s => s.2)).map (·.2))) / (bndF (qs[t.2.2]?.getD noQ).n (qs[t.2.2]?.getD noQ).d).2) * (bndF (qs[t.2.2]?.getD noQ).n (qs[t.2.2]?.getD noQ).d).1))) 2 (0, 0)⟩, ⟨w.heap.size, .cells #[.int .i64 m, .slice (some ⟨b, off, none⟩) n c, .map (some mb)] 100 (0, 0)⟩, ⟨mc, .map es1 clock⟩, ⟨w2.heap.size, .mapIter (some mc) clock seen clock⟩, ⟨w6.heap.size, .mapIter (some mc) clock sn clock⟩, ⟨wc.heap.size, .mapIter (some mc) clock (sm.push es1[i].born) clock⟩, ⟨w20.heap.size, .cells #[.int .i64 ((bndF ((qs[t.2.2]?.getD noQ).n) ((qs[t.2.2]?.getD noQ).d)).1), .int .i64 ((bndF ((qs[t.2.2]?.getD noQ).n) ((qs[t.2.2]?.getD noQ).d)).2)] 23 (0, 0)⟩] rows w22.heap.size := by rw [← hs9]; exact (hA.atK [⟨g, .cells (cu.setIfInBounds (0 + t.2.2 * 1) (.int .i64 (((lcmE qs ((mtM qs (fun s => s.2)).map (·.2))) / ((bndF ((qs[t.2.2]?.getD noQ).n) ((qs[t.2.2]?.getD noQ).d)).2)) * ((bndF ((qs[t.2.2]?.getD noQ).n) ((qs[t.2.2]?.getD noQ).d)).1)))) 2 (0, 0)⟩, ⟨w.heap.size, .cells #[.int .i64 m, .slice (some ⟨b, off, none⟩) n c, .map (some mb)] 100 (0, 0)⟩, ⟨mc, .map es1 clock⟩, ⟨w2.heap.size, .mapIter (some mc) clock seen clock⟩, ⟨w6.heap.size, .mapIter (some mc) clock sn clock⟩, ⟨wc.heap.size, .mapIter (some mc) clock (sm.push es1[i].born) clock⟩, ⟨w20.heap.size, .cells #[.int .i64 ((bndF ((qs[t.2.2]?.getD noQ).n) ((qs[t.2.2]?.getD noQ).d)).1), .int .i64 ((bndF ((qs[t.2.2]?.getD noQ).n) ((qs[t.2.2]?.getD noQ).d)).2)] 23 (0, 0)⟩] (by kernel_rfl)).resize
        refine reknow ⟨[⟨g, .cells (cu.setIfInBounds t.2.2 (.int .i64 (((lcmE qs ((mtM qs (fun s => s.2)).map (·.2))) / (bndF (qs[t.2.2]?.getD noQ).n (qs[t.2.2]?.getD noQ).d).2) * (bndF (qs[t.2.2]?.getD noQ).n (qs[t.2.2]?.getD noQ).d).1))) 2 (0, 0)⟩, ⟨w.heap.size, .cells #[.int .i64 m, .slice (some ⟨b, off, none⟩) n c, .map (some mb)] 100 (0, 0)⟩, ⟨mc, .map es1 clock⟩, ⟨w2.heap.size, .mapIter (some mc) clock seen clock⟩, ⟨w6.heap.size, .mapIter (some mc) clock sn clock⟩, ⟨wc.heap.size, .mapIter (some mc) clock (sm.push es1[i].born) clock⟩, ⟨w20.heap.size, .cells #[.int .i64 ((bndF ((qs[t.2.2]?.getD noQ).n) ((qs[t.2.2]?.getD noQ).d)).1), .int .i64 ((bndF ((qs[t.2.2]?.getD noQ).n) ((qs[t.2.2]?.getD noQ).d)).2)] 23 (0, 0)⟩], w22.heap.size, [], [], [], [], []⟩ (hAk9) (Nat.zero_le _) fun hA => ?_
        have hcc' := cells_push (F := stkV qs (fun s => s.2)) (v := (.int .i64 (((lcmE qs ((mtM qs (fun s => s.2)).map (·.2))) / (bndF (qs[t.2.2]?.getD noQ).n (qs[t.2.2]?.getD noQ).d).2) * (bndF (qs[t.2.2]?.getD noQ).n (qs[t.2.2]?.getD noQ).d).1))) hcz htn hpl rfl hcc
        exact again hJ3 (T.length - (i :: is).length) (⟨i :: is, sm.push es1[i].born, cu.setIfInBounds t.2.2 (.int .i64 (((lcmE qs ((mtM qs (fun s => s.2)).map (·.2))) / (bndF (qs[t.2.2]?.getD noQ).n (qs[t.2.2]?.getD noQ).d).2) * (bndF (qs[t.2.2]?.getD noQ).n (qs[t.2.2]?.getD noQ).d).1))⟩) [true, true, true, true, true, true, false] hA (by rw [List.length_cons]; omega) (by kernel_rfl) (⟨hnd', hin', rfl, hsn', by rw [Array.size_setIfInBounds]; exact hcz, hcc'⟩)
    ·
      have hq9 := hE.get hi
      obtain ⟨t, ht, hbe, hk9, hv9⟩ := hq9
      refine revals hA (rc 31 (show .tuple #[.bool true, es1[i].key, es1[i].val] = .tuple #[.bool true, .agg #[.int .i64 t.2.1.1, .bool t.2.1.2], .int .i64 (t.2.2 : Int)] by rw [hk9, hv9]; rfl) rn) (by kernel_rfl) fun hA9 => ?_
      clear hA; have hA := hA9; clear hA9
      refine runS hA 10 [] xn on (by kernel_rfl) fun w12 hA9 => ?_
      clear hA; have hA := hA9; clear hA9
      refine entMap (r := w6.heap.size) (seen := sn) (es := es1) (clock := clock) (b := mc) (i := i) hA 4 hi (hA.at_.ok ⟨mc, .map es1 clock⟩ (List.mem_of_getElem? (i := 2) (by kernel_rfl))) hn1 (by kernel_rfl) fun hA9 => ?_
      clear hA; have hA := hA9; clear hA9
      refine revals hA (rc 33 (show .tuple #[es1[i].key, es1[i].val] = .tuple #[.agg #[.int .i64 t.2.1.1, .bool t.2.1.2], .int .i64 (t.2.2 : Int)] by rw [hk9, hv9]; rfl) rn) (by kernel_rfl) fun hA9 => ?_
      clear hA; have hA := hA9; clear hA9
      have hni := not_seen hi (fun hm => hns ((hsn _).2 hm))
      have hnd' : (i :: is).Nodup := List.nodup_cons.2 ⟨hni, hnd⟩
      have hin' := in_cons (show i < T.length by omega) hin
      have hln' := nodup_len _ _ hnd' hin'
      rw [List.length_cons] at hln'
      have hpl := pl_mem ht
      have htn := hTq i t ht
      have hsn' := seen_push hi hsn
      have hqo := strict_ok V (i := t.2.2) (by omega)
      have hbo := bnd_ok hqo.1 hqo.2
      have hq9 := hx.at (htn)
      obtain ⟨b, off, rfl, hlb, hcb⟩ := hq9
      have k0 := hcb 0 _ rfl
      have k1 := hcb 1 _ rfl
      have k2 := hcb 2 _ rfl
      have k3 := hcb 3 _ rfl
      refine runS hA 12 [.k 1, .i, .x (.int .i64 ((qs[t.2.2]?.getD noQ).r)), .x (.int .i64 ((qs[t.2.2]?.getD noQ).n)), .x (.int .i64 ((qs[t.2.2]?.getD noQ).d)), .x (.bool ((qs[t.2.2]?.getD noQ).lay))] (xc (a := ⟨b, off + t.2.2 * 4, none⟩) ⟨Nat.lt_of_lt_of_le hlb hB, k0⟩ (xc (a := ⟨b, off + t.2.2 * 4 + 1, none⟩) ⟨Nat.lt_of_lt_of_le hlb hB, k1⟩ (xc (a := ⟨b, off + t.2.2 * 4 + 2, none⟩) ⟨Nat.lt_of_lt_of_le hlb hB, k2⟩ (xc (a := ⟨b, off + t.2.2 * 4 + 3, none⟩) ⟨Nat.lt_of_lt_of_le hlb hB, k3⟩ xn)))) (oc (show (0 : Int) ≤ ((t.2.2 : Int) : Int) ∧ ((t.2.2 : Int) : Int) < (n : Int) by omega) on) (by kernel_rfl) fun w13 hA9 => ?_
      clear hA; have hA := hA9; clear hA9
      refine callB hA [] on (bound_any w13 ((qs[t.2.2]?.getD noQ).r) ((qs[t.2.2]?.getD noQ).n) ((qs[t.2.2]?.getD noQ).d) ((qs[t.2.2]?.getD noQ).lay) (by omega) (by omega)) (by kernel_rfl) fun w14 hb14 hA9 => ?_
      clear hA; have hA := hA9; clear hA9
      refine runS hA 1 [] xn on (by kernel_rfl) fun w15 hA9 => ?_
      clear hA; have hA := hA9; clear hA9
      have hob' := oks_sub hokT hin'
      have hlb' := lcmE_pos hob'
      have hpw' := pow_few (k := ((i :: is).map (plT T)).length) (by rw [List.length_map, List.length_cons]; omega)
      have hst : lcmE qs ((i :: is).map (plT T)) = lcmZ (lcmE qs (is.map (plT T))) (bndF (qs[t.2.2]?.getD noQ).n (qs[t.2.2]?.getD noQ).d).2 := by rw [List.map_cons, hpl]; rfl
      rw [hst] at hlb'
      refine callB hA [] on (multiple_any w15 (lcmE qs (is.map (plT T))) ((bndF ((qs[t.2.2]?.getD noQ).n) ((qs[t.2.2]?.getD noQ).d)).2) (by omega) (by omega) (by omega)) (by kernel_rfl) fun w16 hb16 hA9 => ?_
      clear hA; have hA := hA9; clear hA9
      refine runS hA 3 [] xn on (by kernel_rfl) fun w17 hA9 => ?_
      clear hA; have hA := hA9; clear hA9
      refine revals hA (rc 8 (show .int .i64 (lcmZ (lcmE qs (is.map (plT T))) ((bndF ((qs[t.2.2]?.getD noQ).n) ((qs[t.2.2]?.getD noQ).d)).2)) = .int .i64 (lcmE qs ((i :: is).map (plT T))) by rw [hst]) rn) (by kernel_rfl) fun hA9 => ?_
      clear hA; have hA := hA9; clear hA9
      exact again hJ2 (T.length - (i :: is).length) (⟨i :: is, sn.push es1[i].born⟩) [true, true, true, true, true] hA (by rw [List.length_cons]; omega) (by kernel_rfl) (⟨hnd', hin', rfl, hsn'⟩)
  ·
    have hq9 := hE.get hi
    obtain ⟨t, ht, hbe, hk9, hv9⟩ := hq9
    refine revals hA (rc 19 (show .tuple #[.bool true, es1[i].key, es1[i].val] = .tuple #[.bool true, .agg #[.int .i64 t.2.1.1, .bool t.2.1.2], .int .i64 (t.2.2 : Int)] by rw [hk9, hv9]; rfl) rn) (by kernel_rfl) fun hA9 => ?_
    clear hA; have hA := hA9; clear hA9
    refine runS hA 10 [] xn on (by kernel_rfl) fun w7 hA9 => ?_
    clear hA; have hA := hA9; clear hA9
    refine entMap (r := w2.heap.size) (seen := seen) (es := es1) (clock := clock) (b := mc) (i := i) hA 3 hi (hA.at_.ok ⟨mc, .map es1 clock⟩ (List.mem_of_getElem? (i := 2) (by kernel_rfl))) hn1 (by kernel_rfl) fun hA9 => ?_
    clear hA; have hA := hA9; clear hA9
    refine revals hA (rc 21 (show .tuple #[es1[i].key, es1[i].val] = .tuple #[.agg #[.int .i64 t.2.1.1, .bool t.2.1.2], .int .i64 (t.2.2 : Int)] by rw [hk9, hv9]; rfl) rn) (by kernel_rfl) fun hA9 => ?_
    clear hA; have hA := hA9; clear hA9
    refine runS hA 9 (List.replicate 4 (.k 4)) xn on (by kernel_rfl) fun w8 hA9 => ?_
    clear hA; have hA := hA9; clear hA9
    refine callB hA [] on (meant1_any w8 t.2.1) (by kernel_rfl) fun w9 hb9 hA9 => ?_
    clear hA; have hA := hA9; clear hA9
    refine runS hA 3 [.t 0] xn on (by kernel_rfl) fun w10 hA9 => ?_
    clear hA; have hA := hA9; clear hA9
    have hns' : t.1 ∉ seen.toList := by rw [← hbe]; exact hns
    have hmt := List.mem_of_getElem? ht
    have hpsh : (seen.push es1[i].born).toList = seen.toList ++ [t.1] := by rw [Array.toList_push, hbe]
    have hq9 := Bool.eq_false_or_eq_true (t.2.1.2)
    rcases hq9 with ht1 | ht1
    ·
      refine runS hA 3 [.b false] xn (oc (show Value.bool (!t.2.1.2) = .bool false by rw [ht1] <;> rfl) on) (by kernel_rfl) fun w11 hA9 => ?_
      clear hA; have hA := hA9; clear hA9
      exact again hJ (leftT T (seen.push es1[i].born).toList) (⟨T, es1, seen.push es1[i].born⟩) [true, true, true, true, false] hA (by rw [hpsh]; exact left_stay hmt hns') (by kernel_rfl) (⟨by rw [hpsh]; exact hL.stay hmt (show ((fun s => s.2) t.2.1) = true by show t.2.1.2 = true; rw [ht1] <;> rfl), hE, rfl⟩)
    ·
      refine runS hA 4 [.b true, .k 4, .k 4] xn (oc (show Value.bool (!t.2.1.2) = .bool true by rw [ht1] <;> rfl) on) (by kernel_rfl) fun w11 hA9 => ?_
      clear hA; have hA := hA9; clear hA9
      have hk0 : ((T0.map (·.2)).map (·.1)).Nodup := by rw [hTm]; exact bestM_keys qs _
      have hkeys : ((T.map (·.2)).map (·.1)).Nodup := ((hTs.map _).map _).nodup hk0
      refine mapDelE (mt := 98) (et := 3) (kt' := 129) (ty := 0) (p := t.2.1) (b := mc) (i := i) (v0 := t.2.2) (es := es1) (clock := clock) (enc := idxV) (m := T.map (·.2)) hA keySide 2 (ent_mo hE) hc1 hn1 (ent_key hkeys ht) (by kernel_rfl) fun w12 hA9 => ?_
      clear hA; have hA := hA9; clear hA9
      refine runS hA 2 [] xn on (by kernel_rfl) fun w13 hA9 => ?_
      clear hA; have hA := hA9; clear hA9
      exact again hJ (leftT (T.eraseIdx i) (seen.push es1[i].born).toList) (⟨T.eraseIdx i, es1.eraseIdxIfInBounds i, seen.push es1[i].born⟩) [true, true, true, true, false] hA (by rw [hpsh]; exact left_drop ht hns') (by kernel_rfl) (⟨by rw [hpsh]; exact hL.drop ht (show ((fun s => s.2) t.2.1) = false by show t.2.1.2 = false; rw [ht1] <;> rfl), hE.erase i, rfl⟩)
end Go.Proofs.Ytfidkgpimlpdbaa
