/- Parts of a proof: SC SD SE SP. -/
import Derived.Test.YtfidkgpimlpdbaaF1
import Derived.Maps.AppendAt
import Derived.ArgAppend
import Derived.Lib.SliceRun
import Derived.Laws.IdiomCopy

/- Symbolic runs: entry, calls, loops, regions that draw, returns. -/
namespace Go.Proofs.Ytfidkgpimlpdbaa
open Go.RowKit Go.Shelf

theorem xn {w0 : World} : ExtL w0 [] := trivial
theorem xc {w0 : World} {a : Addr} {v : Value} {l : List (Addr × Value)} (h : a.block < w0.heap.size ∧ w0.cell? a = some v) (k : ExtL w0 l) : ExtL w0 ((a, v) :: l) := ⟨h, k⟩
theorem dec_t {p : Prop} [Decidable p] (h : p) : Value.bool (decide p) = .bool true := by rw [decide_eq_true h]
theorem dec_f {p : Prop} [Decidable p] (h : ¬ p) : Value.bool (decide p) = .bool false := by rw [decide_eq_false h]
theorem eq_t {a b : Int} (h : a = b) : Value.bool (a == b) = .bool true := by rw [h]; simp
theorem eq_f {a b : Int} (h : a ≠ b) : Value.bool (a == b) = .bool false := by simp [h]
theorem ne_t {a b : Int} (h : a ≠ b) : Value.bool (a != b) = .bool true := by simp [h]
theorem ne_f {a b : Int} (h : a = b) : Value.bool (a != b) = .bool false := by simp [h]
theorem wr64 {x y : Int} (h : -9223372036854775808 ≤ x ∧ x ≤ 9223372036854775807) (e : x = y) : Value.int .i64 (IntKind.i64.wrap x) = .int .i64 y := by rw [IntKind.wrap_i64]; congr 1; omega
/-- What slots hold, said otherwise. -/
def ReL : List (Nat × Value × Value) → Prop
  | [] => True
  | p :: l => p.2.1 = p.2.2 ∧ ReL l
theorem rn : ReL [] := trivial
theorem rc (t : Nat) {v v' : Value} {l : List (Nat × Value × Value)} (e : v = v') (k : ReL l) : ReL ((t, v, v') :: l) := ⟨e, k⟩
theorem on : AllP [] := trivial
theorem oc {p : Prop} {l : List Prop} (h : p) (k : AllP l) : AllP (p :: l) := ⟨h, k⟩
/-- The frame of a call's arguments. -/
noncomputable def argFr (l : List Value) : Nat → Fr := List.rec (fun _ => []) (fun v _ ih n => (n, v) :: ih (n + 1)) l
theorem argFr_get : ∀ (l : List Value) (n t : Nat) (v : Value), (argFr l n).get t = some v → n ≤ t ∧ l[t - n]? = some v
  | [], _, _, _, h => by cases h
  | u :: l, n, t, v, h => by
    have e : argFr (u :: l) n = (n, u) :: argFr l (n + 1) := rfl
    rw [e, Fr.get_cons] at h
    by_cases hnt : n = t
    · rw [if_pos hnt] at h
      subst hnt
      cases h
      exact ⟨Nat.le_refl _, by simp⟩
    · rw [if_neg hnt] at h
      obtain ⟨h1, h2⟩ := argFr_get l (n + 1) t v h
      refine ⟨by omega, ?_⟩
      rw [show t - n = (t - (n + 1)) + 1 by omega]
      simpa using h2
noncomputable def sta0 (body : Code) (args : Array Value) (z : Nat) : Sta := ⟨.code body, [], argFr args.toList 0, ⟨[], z, [], [], [], [], []⟩⟩
theorem wp_fen {P : Program} {c : Code} {Q : Exit → Act → World → Prop} {a : Act} {w : World} (h : c.wpIn (fen none) 1 P Q a w) : c.wp P Q a w := wpIn_wide.1 h
theorem rep0 {N : Nat} {args : Array Value} {m : Nat} (hN : args.size + m = N) : Rep N (argFr args.toList 0) { tmps := args ++ Array.replicate m undef, defers := [] } := by
  refine ⟨by simp [hN], fun t v h => ?_⟩
  obtain ⟨-, h2⟩ := argFr_get _ _ _ _ h
  simp only [Nat.sub_zero, Array.getElem?_toList] at h2
  have hlt := (Array.getElem?_eq_some_iff.1 h2).1
  rw [Array.getElem?_append_left hlt]
  exact h2
structure AtS (c : Ctx) (S : Sta) (w : World) (rows : List KB) : Prop where
  at_ : At c.w0 w S.env.known rows S.env.sz
  lo : c.lo ≤ w.heap.size
theorem AtS.below {c : Ctx} {S : Sta} {w : World} {rows : List KB} (h : AtS c S w rows) : Below c.w0.heap.size c.w0 w := h.at_.below
theorem AtS.size {c : Ctx} {S : Sta} {w : World} {rows : List KB} (h : AtS c S w rows) : c.w0.heap.size ≤ w.heap.size := h.below.size
def fctx (P : Program) (N : Nat) (fn : Func) (R : Ending → World → Prop) (w0 : World) : Ctx := ⟨P, none, N, [], bodyPost P fn R, w0, 0⟩
noncomputable def bodyOf (fn : Func) : Code := fn.body.getD .skip
theorem enter {P : Program} {f : FuncId} {fn : Func} {args : Array Value} {w : World} {R : Ending → World → Prop} (N : Nat) (hf : P.funcs[f]? = some fn) (hb : (fn.body.isSome, args.size + (fn.ntmps - args.size)) = (true, N))
    (h : AtS (fctx P N fn R w) (sta0 (bodyOf fn) args w.heap.size) w [] → Run (fctx P N fn R w) (sta0 (bodyOf fn) args w.heap.size) w) : Calls P f args w R := by
  simp only [Prod.mk.injEq] at hb
  obtain ⟨h1, h2⟩ := hb
  have hb : fn.body = some (bodyOf fn) := by
    unfold bodyOf
    cases hbd : fn.body with
    | none => rw [hbd] at h1; cases h1
    | some c => rfl
  refine calls_of_wp hf hb (wp_fen ?_)
  exact (h ⟨At.start w, Nat.zero_le _⟩).go _ (rep0 h2) rfl
/-- The results of a function, out of what is known of the frame. -/
noncomputable def resS (fn : Func) (fr : Fr) : Sem Value := do
  let vs ← fn.results.mapM fun
    | .tmp t => pure ((fr.get t).getD undef)
    | .cell a t => do loadVar t (← asAddr ((fr.get a).getD undef))
  pure (if h : vs.size = 1 then vs[0] else .tuple vs)
noncomputable def resK (fn : Func) (fr : Fr) : Bool := fn.results.toList.all fun r => match r with | .tmp t => (fr.get t).isSome | .cell t _ => (fr.get t).isSome
theorem listMapM_congr {α β : Type} {f g : α → Sem β} : ∀ (l : List α), (∀ x ∈ l, f x = g x) → l.mapM f = l.mapM g
  | [], _ => rfl
  | x :: l, h => by
    rw [List.mapM_cons, List.mapM_cons, h x List.mem_cons_self, listMapM_congr l fun y hy => h y (List.mem_cons_of_mem _ hy)]
theorem res_eq {fn : Func} {fr : Fr} {N : Nat} {a : Act} (hR : Rep N fr a) (hk : resK fn fr = true) : results fn a.tmps = resS fn fr := by
  have hg : ∀ t, (fr.get t).isSome = true → a.tmps.getD t undef = (fr.get t).getD undef := fun t ht => by
    cases hgt : fr.get t with
    | none => rw [hgt] at ht; cases ht
    | some v => rw [Array.getD_eq_getD_getElem?, hR.2 t v hgt]
  unfold results resS
  rw [Array.mapM_eq_mapM_toList, Array.mapM_eq_mapM_toList]
  congr 2
  refine listMapM_congr _ fun r hr => ?_
  have := List.all_eq_true.1 hk r hr
  cases r with
  | tmp t => simp only at this ⊢; rw [hg t this]
  | cell t T => simp only at this ⊢; rw [hg t this]
def endB (S : Sta) : Bool := match S.ctl, S.stk with | .out .ret, [] => true | .out .normal, [] => true | _, _ => false
noncomputable def retOf (P : Program) (fn : Func) (S : Sta) (hs : List Hint) : Option (Value × Env) := sy P true (resS fn S.fr) ⟨S.env.known, S.env.sz, hs, [], [], [], []⟩
noncomputable def retE (o : Option (Value × Env)) : List (Nat × Nat) := match o with | some (_, e) => e.eqs | none => []
noncomputable def retV (o : Option (Value × Env)) : Option Value := match o with | some (v, ⟨_, _, _, _, [], [], []⟩) => some v | _ => none
theorem ret {P : Program} {N : Nat} {w0 : World} {S : Sta} {w : World} {rows : List KB} {fn : Func} {R : Ending → World → Prop} {v : Value} (hA : AtS (fctx P N fn R w0) S w rows) (hs : List Hint)
    (h : (endB S, resK fn S.fr, retV (retOf P fn S hs), (retE (retOf P fn S hs)).map Prod.fst) = (true, true, some v, (retE (retOf P fn S hs)).map Prod.snd)) (hv : R (.returned v) w) : Run (fctx P N fn R w0) S w := by
  refine ⟨fun a hR hda => ?_⟩
  simp only [Prod.mk.injEq] at h
  obtain ⟨he, hk, h, heq⟩ := h
  unfold retV at h
  split at h
  · rename_i v' kn sz hs' eqs hsy
    cases h
    rw [hsy] at heq
    obtain ⟨-, -, hr⟩ := sy_read (w0 := w0) _ _ _ _ hsy ⟨eqs_of_map heq, by simp, by simp, by simp⟩
    have hrun := hr w hA.at_.hold
    rw [← res_eq hR hk] at hrun
    obtain ⟨ctl, s, fr, e⟩ := S
    unfold endB at he
    split at he
    · rename_i h3 h4
      simp only at h3 h4
      subst h3; subst h4
      exact ⟨hda, v, hrun, hv⟩
    · rename_i h3 h4
      simp only at h3 h4
      subst h3; subst h4
      exact ⟨hda, v, hrun, hv⟩
    · cases he
  · cases h

theorem runS {c : Ctx} {S : Sta} {w : World} {rows : List KB} (hA : AtS c S w rows) (n : Nat) (hs : List Hint) {ext : List (Addr × Value)} {obs : List Prop} (he : ExtL c.w0 ext) (hc : AllP obs)
    (hk : ((exec c.P c.N n (S.hint hs)).env.eqs.map Prod.fst, (exec c.P c.N n (S.hint hs)).env.kqs.map Prod.fst, (exec c.P c.N n (S.hint hs)).env.ext.reverse, (exec c.P c.N n (S.hint hs)).env.obs.reverse) = ((exec c.P c.N n (S.hint hs)).env.eqs.map Prod.snd, (exec c.P c.N n (S.hint hs)).env.kqs.map Prod.snd, ext, obs))
    (h : ∀ w', AtS c (exec c.P c.N n (S.hint hs)) w' rows → Run c (exec c.P c.N n (S.hint hs)) w') : Run c S w :=
  run hA.at_ n hs he hc hk fun w' g => h w' ⟨g, by
    have h1 := exec_sz (P := c.P) (N := c.N) n (S.hint hs)
    have h2 := g.size
    have h3 := hA.at_.size
    have h4 := hA.lo
    have h5 : (S.hint hs).env.sz = S.env.sz := rfl
    omega⟩

/-! ### the operation at the head -/
noncomputable def headOf (S : Sta) : Option (Oper × Array Oper) :=
  match S.ctl with
  | .ops all (o :: _) => some (o, all)
  | .tail all (o :: _) => some (o, all)
  | .draw all listed (_ + 1) _ _ _ => match Region.ready .any all listed with
    | [i] => match all[i]? with | some o => some (o, all) | none => none
    | _ => none
  | .pick all _ _ _ _ _ i => match all[i]? with | some o => some (o, all) | none => none
  | _ => none
noncomputable def putD (N : Nat) (fr : Fr) (dst : Option Tmp) (v : Value) : Fr := (putS N fr dst v).getD fr
/-- Behind the operation at the head, which yields v. -/
noncomputable def valS (N : Nat) (S : Sta) (v : Value) (z : Nat) : Sta :=
  match S with
  | ⟨.ops all (o :: l), s, fr, e⟩ => ⟨.ops all l, s, putD N fr o.dst v, ⟨e.known, z, [], [], [], [], []⟩⟩
  | ⟨.tail all (o :: l), s, fr, e⟩ => ⟨.tail all l, s, putD N fr o.dst v, ⟨e.known, z, [], [], [], [], []⟩⟩
  | ⟨.draw all listed (f + 1) kn0 m nd, s, fr, e⟩ => match Region.ready .any all listed with
    | [i] => match all[i]? with
      | some o => ⟨.draw all (listed.setIfInBounds i true) f kn0 m nd, s, putD N fr o.dst v, ⟨e.known, z, [], [], [], [], []⟩⟩
      | none => S
    | _ => S
  | ⟨.pick all listed f kn0 m nd i, s, fr, e⟩ => match all[i]? with
    | some o => ⟨.draw all (listed.setIfInBounds i true) f kn0 m nd, s, putD N fr o.dst v, ⟨e.known, z, [], [], [], [], []⟩⟩
    | none => S
  | S => S
noncomputable def semOf (_ : Program) (N : Nat) (S : Sta) (hs : List Hint) : Option (Sem Next × List Prop) :=
  match headOf S with
  | some (o, all) => match wantS all o S.fr ⟨S.env.known, S.env.sz, hs, [], [], [], []⟩ with
    | some (true, fr, ⟨_, _, _, [], [], obs, []⟩) => cond (plainOp o && o.op.operands.toList.all (knows fr) && (putS N S.fr o.dst undef).isSome) (some (execOp (rho fr) o, obs)) none
    | _ => none
  | none => none
theorem valS_env {P : Program} {N : Nat} {S : Sta} {hs : List Hint} {r : Sem Next × List Prop} (h : semOf P N S hs = some r) (v : Value) (z : Nat) : (valS N S v z).env.known = S.env.known ∧ (valS N S v z).env.sz = z := by
  obtain ⟨ctl, s, fr, e⟩ := S
  unfold semOf at h
  split at h
  · rename_i o all hh
    unfold headOf at hh
    split at hh
    · rename_i h1; simp only at h1; subst h1; exact ⟨rfl, rfl⟩
    · rename_i h1; simp only at h1; subst h1; exact ⟨rfl, rfl⟩
    · rename_i all' listed f kn0 m nd h1
      simp only at h1
      subst h1
      split at hh
      · rename_i i hr
        split at hh
        · rename_i o' ho
          unfold valS
          simp only [hr, ho, and_self]
        · cases hh
      · cases hh
    · rename_i all' listed f kn0 m nd i h1
      simp only at h1
      subst h1
      split at hh
      · rename_i o' ho
        unfold valS
        simp only [ho, and_self]
      · cases hh
    · cases hh
  · cases h
theorem putS_any {N : Nat} {fr : Fr} {dst : Option Tmp} {u : Value} (h : (putS N fr dst u).isSome = true) (v : Value) : putS N fr dst v = some (putD N fr dst v) := by
  cases dst with
  | none => rfl
  | some t =>
    unfold putD
    have e : ∀ x, putS N fr (some t) x = cond (Nat.blt t N) (some ((t, x) :: fr)) none := fun _ => rfl
    rw [e] at h ⊢
    cases hb : Nat.blt t N with
    | false => rw [hb] at h; cases h
    | true => rfl
/-- What the operation at the head does. -/
theorem head_step {c : Ctx} {S : Sta} {w : World} {hs : List Hint} {obs : List Prop} {s : Sem Next} (hc : AllP obs) (h : semOf c.P c.N S hs = some (s, obs)) {a : Act} (hR : Rep c.N S.fr a)
    (hk : ∀ (F : Fence) (_ : ∀ f, F.fn f) (o : Oper) (Q : Exit → Act → World → Prop) (K : Act → World → Prop), (F = Fence.wide ∨ F = fen c.ro) → plainOp o = true → execOp a.eval o = s →
      (∀ v, ∀ w', (Hold c.w0 S.env.known w → Hold c.w0 S.env.known w') → (∀ kn0, Hold c.w0 kn0 w → Hold c.w0 kn0 w') → wpS c (valS c.N S v w'.heap.size) (a.put o.dst v) w' → K (a.put o.dst v) w') → (∀ v, Rep c.N (valS c.N S v 0).fr (a.put o.dst v) ∧ (a.put o.dst v).defers = a.defers) → o.wpIn F 1 c.P a w K Q) : wpS c S a w := by
  unfold semOf at h
  split at h
  · rename_i o all hhead
    split at h
    · rename_i frw kn sz hs' obs' hw
      cases hcc : (plainOp o && o.op.operands.toList.all (knows frw) && (putS c.N S.fr o.dst undef).isSome) with
      | false => rw [hcc] at h; cases h
      | true =>
        rw [hcc] at h
        simp only [cond_true, Option.some.injEq, Prod.mk.injEq] at h
        obtain ⟨rfl, rfl⟩ := h
        simp only [Bool.and_eq_true] at hcc
        obtain ⟨⟨c1, c2⟩, c3⟩ := hcc
        obtain ⟨-, -, -, hwt⟩ := wantS_sound (w0 := c.w0) (N := c.N) hw ⟨by simp, by simp, hc.mem, by simp⟩
        have hwt' := (hwt a hR).2
        have hexec := (hwt a hR).1.exec c1 c2
        clear hwt
        have hrep : ∀ v, Rep c.N (putD c.N S.fr o.dst v) (a.put o.dst v) ∧ (a.put o.dst v).defers = a.defers := fun v => ⟨hR.put (putS_any c3 v), by cases o.dst <;> rfl⟩
        obtain ⟨ctl, st, fr, e⟩ := S
        unfold headOf at hhead
        split at hhead
        · rename_i all' o' l hctl
          simp only at hctl
          subst hctl
          cases hhead
          show wpListIn (fen c.ro) 1 c.P all (kQ c st) (o :: l) a w
          unfold wpListIn
          rw [if_pos hwt']
          exact hk (fen c.ro) (fen_fn _) o _ _ (.inr rfl) c1 hexec (fun v w' _ _ hn => hn) hrep
        · rename_i all' o' l hctl
          simp only at hctl
          subst hctl
          cases hhead
          show wpListIn Fence.wide 1 c.P all (endQ c st) (o :: l) a w
          unfold wpListIn
          rw [if_pos hwt']
          exact hk Fence.wide wide_fn o _ _ (.inl rfl) c1 hexec (fun v w' _ _ hn => hn) hrep
        · rename_i all' listed f kn0 m nd hctl
          simp only at hctl
          subst hctl
          split at hhead
          · rename_i i hready
            split at hhead
            · rename_i o' hoi
              cases hhead
              intro hH
              have hval : ∀ v z, valS c.N ⟨.draw all listed (f + 1) kn0 m nd, st, fr, e⟩ v z = ⟨.draw all (listed.setIfInBounds i true) f kn0 m nd, st, putD c.N fr o.dst v, ⟨e.known, z, [], [], [], [], []⟩⟩ := fun v z => by
                unfold valS
                simp only [hready, hoi]
              refine wpAnyHI_one hoi (by rw [hready]; exact decide_eq_true rfl) fun K' hK' => ?_
              rw [if_pos hwt']
              refine hk Fence.wide wide_fn o _ _ (.inl rfl) c1 hexec (fun v w' _ hh hn => hK' _ _ ⟨fun _ => hh kn0 hH, ?_⟩) (fun v => by rw [hval]; exact hrep v)
              rw [hval] at hn
              exact hn (hh kn0 hH)
            · cases hhead
          · cases hhead
        · rename_i all' listed f kn0 m nd i hctl
          simp only at hctl
          subst hctl
          split at hhead
          · rename_i o' hoi
            cases hhead
            intro hH o2 ho2 K' hK'
            rw [hoi] at ho2
            cases ho2
            have hval : ∀ v z, valS c.N ⟨.pick all listed f kn0 m nd i, st, fr, e⟩ v z = ⟨.draw all (listed.setIfInBounds i true) f kn0 m nd, st, putD c.N fr o.dst v, ⟨e.known, z, [], [], [], [], []⟩⟩ := fun v z => by
              unfold valS
              simp only [hoi]
            rw [if_pos hwt']
            refine hk Fence.wide wide_fn o _ _ (.inl rfl) c1 hexec (fun v w' _ hh hn => hK' _ _ ⟨fun _ => hh kn0 hH, ?_⟩) (fun v => by rw [hval]; exact hrep v)
            rw [hval] at hn
            exact hn (hh kn0 hH)
          · cases hhead
        · cases hhead
    · cases h
  · cases h
theorem callsIn_any {P : Program} {f : FuncId} {args : Array Value} {w : World} {R : Ending → World → Prop} {F : Fence} {ro : Option Nat} (hF : F = Fence.wide ∨ F = fen ro) (h : Calls P f args w R) (n : Nat) : CallsIn F n P f args w R := by
  rcases hF with rfl | rfl
  · exact callsIn_wide.2 h
  · cases ro with
    | none => exact callsIn_wide.2 h
    | some l => exact CallsIn.inRound l (callsIn_wide.2 h)
theorem valS_z {N : Nat} {S : Sta} {v : Value} {z z' : Nat} : (valS N S v z).fr = (valS N S v z').fr := by
  unfold valS
  split <;> first | rfl | skip
  · split
    · split <;> rfl
    · rfl
  · split <;> rfl
noncomputable def callOf (P : Program) (N : Nat) (S : Sta) (hs : List Hint) : Option (FuncId × Array Value × List Prop) :=
  match semOf P N S hs with
  | some (s, obs) => match sy P true s ⟨S.env.known, S.env.sz, [], [], [], [], []⟩ with
    | some (.enter f args, ⟨_, _, _, [], [], [], []⟩) => some (f, args, obs)
    | _ => none
  | none => none
/-- A call, by its contract. -/
theorem call {c : Ctx} {S : Sta} {w : World} {rows : List KB} {f : FuncId} {args : Array Value} {R : Ending → World → Prop} (hA : AtS c S w rows) (hs : List Hint) {obs : List Prop} (hcd : AllP obs) (hc : Calls c.P f args w R)
    (h : callOf c.P c.N S hs = some (f, args, obs))
    (hb : ∀ e w', R e w' → Below w.heap.size w w') (k : ∀ e w', R e w' → ∃ v, e = .returned v ∧ (AtS c (valS c.N S v w'.heap.size) w' rows → Run c (valS c.N S v w'.heap.size) w')) : Run c S w := by
  refine ⟨fun a hR hd => ?_⟩
  unfold callOf at h
  split at h
  · rename_i s obs' hsem
    split at h
    · rename_i f' args' kn sz hs' hsy
      simp only [Option.some.injEq, Prod.mk.injEq] at h
      obtain ⟨rfl, rfl, rfl⟩ := h
      obtain ⟨-, -, hrun⟩ := sy_read (w0 := c.w0) _ _ _ _ hsy ⟨by simp, by simp, by simp, by simp⟩
      refine head_step hcd hsem hR fun F hF o Q K hFF hp hex hK hrep => ?_
      refine ⟨fun f _ => hF f, ?_⟩
      rw [Oper.semAt_plain _ _ _ (plain_defer hp), hex, hrun w hA.at_.hold]
      refine ⟨fun _ => Nat.le_refl _, (callsIn_any hFF hc _).mono fun e w' hRe => ?_⟩
      have hbe := hb e w' hRe
      obtain ⟨v, rfl, hrun'⟩ := k e w' hRe
      have henv := valS_env hsem v w'.heap.size
      exact hK v w' (fun hh => hh.call hbe) (fun kn0 hh => hh.call hbe) ((hrun' ⟨by rw [henv.1, henv.2]; exact At.call hA.at_ hbe, Nat.le_trans hA.lo hbe.size⟩).go _ (by rw [valS_z (z' := 0)]; exact (hrep v).1) ((hrep v).2.trans hd))
    · cases h
  · cases h
/-- A call that yields a value and turns nothing that was there. -/
theorem callB {c : Ctx} {S : Sta} {w : World} {rows : List KB} {f : FuncId} {args : Array Value} {v : Value} (hA : AtS c S w rows) (hs : List Hint) {obs : List Prop} (hcd : AllP obs)
    (hc : Calls c.P f args w fun e w' => e = .returned v ∧ Below w.heap.size w w') (h : callOf c.P c.N S hs = some (f, args, obs))
    (k : ∀ w', Below w.heap.size w w' → AtS c (valS c.N S v w'.heap.size) w' rows → Run c (valS c.N S v w'.heap.size) w') : Run c S w :=
  call hA hs hcd hc h (fun _ _ h => h.2) fun _ w' hR => ⟨v, hR.1, k w' hR.2⟩
/-- An operation that yields, whatever the world, a value that facts give. -/
theorem opv {c : Ctx} {S : Sta} {w : World} {s : Sem Next} {v : Value} {rows : List KB} (hA : AtS c S w rows) (hs : List Hint) {obs : List Prop} (hcd : AllP obs) (h : semOf c.P c.N S hs = some (s, obs)) (hr : s.run c.P w = .ok (.value v) w)
    (k : AtS c (valS c.N S v w.heap.size) w rows → Run c (valS c.N S v w.heap.size) w) : Run c S w := by
  refine ⟨fun a hR hd => ?_⟩
  have henv := valS_env h v w.heap.size
  have k := k ⟨by rw [henv.1, henv.2]; exact hA.at_.resize, hA.lo⟩
  refine head_step hcd h hR fun F hF o Q K hFF hp hex hK hrep => ?_
  refine ⟨fun f _ => hF f, ?_⟩
  rw [Oper.semAt_plain _ _ _ (plain_defer hp), hex, hr]
  exact hK v w id (fun _ => id) (k.go _ (by rw [valS_z (z' := 0)]; exact (hrep v).1) ((hrep v).2.trans hd))
/-- What a slot holds, said otherwise. -/
theorem reval {c : Ctx} {S : Sta} {w : World} {rows : List KB} (hA : AtS c S w rows) (t : Nat) {v v' : Value} (h : S.fr.get t = some v) (e : v = v') (k : AtS c ⟨S.ctl, S.stk, (t, v') :: S.fr, S.env⟩ w rows → Run c ⟨S.ctl, S.stk, (t, v') :: S.fr, S.env⟩ w) : Run c S w := by
  refine ⟨fun a hR hd => ?_⟩
  have := (k ⟨hA.at_, hA.lo⟩).go a ⟨hR.1, fun s u hs => by
    rw [Fr.get_cons] at hs
    by_cases hts : t = s
    · subst hts
      rw [if_pos rfl] at hs
      cases hs
      rw [← e]
      exact hR.2 t v h
    · rw [if_neg hts] at hs
      exact hR.2 s u hs⟩ hd
  exact this
theorem ReL.rep {N : Nat} {fr : Fr} {a : Act} (h : Rep N fr a) : ∀ (l : List (Nat × Value × Value)), ReL l → (l.map fun p => fr.get p.1) = (l.map fun p => some p.2.1) → Rep N ((l.map fun p => (p.1, p.2.2)) ++ fr) a
  | [], _, _ => h
  | p :: l, hl, hg => by
    simp only [List.map_cons, List.cons.injEq] at hg
    have ih := ReL.rep h l hl.2 hg.2
    refine ⟨ih.1, fun s u hs => ?_⟩
    rw [List.map_cons, List.cons_append, Fr.get_cons] at hs
    by_cases hts : p.1 = s
    · rw [if_pos hts] at hs
      cases hs
      rw [← hl.1, ← hts]
      exact h.2 _ _ hg.1
    · rw [if_neg hts] at hs
      exact ih.2 s u hs
theorem revals {c : Ctx} {S : Sta} {w : World} {rows : List KB} (hA : AtS c S w rows) {l : List (Nat × Value × Value)} (hl : ReL l) (hg : (l.map fun p => S.fr.get p.1) = (l.map fun p => some p.2.1))
    (k : AtS c ⟨S.ctl, S.stk, (l.map fun p => (p.1, p.2.2)) ++ S.fr, S.env⟩ w rows → Run c ⟨S.ctl, S.stk, (l.map fun p => (p.1, p.2.2)) ++ S.fr, S.env⟩ w) : Run c S w :=
  ⟨fun a hR hd => (k ⟨hA.at_, hA.lo⟩).go a (ReL.rep hR l hl hg) hd⟩
/-- What is known of the memory, said otherwise. -/
theorem reknow {c : Ctx} {S : Sta} {w : World} {rows : List KB} (e : Env) (hA : At c.w0 w e.known rows e.sz) (hlo : c.lo ≤ w.heap.size) (k : AtS c ⟨S.ctl, S.stk, S.fr, e⟩ w rows → Run c ⟨S.ctl, S.stk, S.fr, e⟩ w) : Run c S w := ⟨fun a hR hd => (k ⟨hA, hlo⟩).go a hR hd⟩

/-! ### regions that draw -/
noncomputable def drawS (m : List Bool) (nd : List Nat) (S : Sta) : Option Sta :=
  match S with
  | ⟨.code (.region _ ops true), s, fr, e⟩ => cond (noDefer ops) (some ⟨.draw ops (Array.replicate ops.size false) ops.size (pick m e.known) m nd, s, fr, e⟩) none
  | _ => none
theorem draw {c : Ctx} {S : Sta} {w : World} {rows : List KB} (hA : AtS c S w rows) (m : List Bool) (nd : List Nat) (hm : c.P.follows .mixedOrders = true) (h : (drawS m nd S).isSome = true)
    (k : AtS c ((drawS m nd S).getD S) w.drew rows → Run c ((drawS m nd S).getD S) w.drew) : Run c S w := by
  obtain ⟨S', h⟩ := Option.isSome_iff_exists.1 h
  rw [h, Option.getD_some] at k
  refine ⟨fun a hR hd => ?_⟩
  unfold drawS at h
  split at h
  · rename_i id ops s fr e x
    cases hn : noDefer ops with
    | false => rw [hn] at h; cases h
    | true =>
      rw [hn] at h
      simp only [cond_true, Option.some.injEq] at h
      subst h
      have hA' := At.drew hA.at_
      have k := (k ⟨hA', hA.lo⟩).go a hR hd (hA'.hold.sub (pick_sub m _))
      show (Code.region id ops true).wpIn (fen c.ro) 1 c.P (kQ c s) a w
      have fin : ∀ e a' w', endQ c s e a' w' → kQ c s e a' w' := fun e a' w' hq => by
        cases e with
        | normal => exact hq
        | exit id => exact hq.elim
        | goto l => exact hq.elim
        | ret => exact hq.elim
        | panic ch => exact hq.elim
        | outgrown => exact hq.elim
      cases hro : c.ro with
      | none => exact wpIn_mono (wpIn_region_any hm (wpAnyIn_of_held _ _ _ _ k)) fin
      | some l => exact wpIn_mono (region_round hm hn (wpAnyIn_of_held _ _ _ _ k)) fin
  · cases h

/-- Two operations may come up: each of them first. -/
noncomputable def pickS (S : Sta) (i : Nat) : Sta :=
  match S with
  | ⟨.draw all listed (f + 1) kn0 m nd, s, fr, e⟩ => ⟨.pick all listed f kn0 m nd i, s, fr, ⟨e.known, e.sz, [], [], [], [], []⟩⟩
  | S => S
noncomputable def twoS (S : Sta) : Option (Nat × Nat) :=
  match S.ctl with
  | .draw all listed (_ + 1) _ _ _ => match Region.ready .any all listed with
    | [i, j] => cond ((all[i]?).isSome && (all[j]?).isSome) (some (i, j)) none
    | _ => none
  | _ => none
theorem two {c : Ctx} {S : Sta} {w : World} {rows : List KB} (hA : AtS c S w rows) (i j : Nat) (h : twoS S = some (i, j)) (k1 : AtS c (pickS S i) w rows → Run c (pickS S i) w) (k2 : AtS c (pickS S j) w rows → Run c (pickS S j) w) : Run c S w := by
  refine ⟨fun a hR hd => ?_⟩
  obtain ⟨ctl, s, fr, e⟩ := S
  unfold twoS at h
  split at h
  · rename_i all listed f kn0 m nd hctl
    simp only at hctl
    subst hctl
    split at h
    · rename_i i' j' hready
      cases hc : ((all[i']?).isSome && (all[j']?).isSome) with
      | false => rw [hc] at h; cases h
      | true =>
        rw [hc] at h
        cases h
        rw [Bool.and_eq_true] at hc
        obtain ⟨oi, hoi⟩ := Option.isSome_iff_exists.1 hc.1
        obtain ⟨oj, hoj⟩ := Option.isSome_iff_exists.1 hc.2
        have g1 := (k1 ⟨hA.at_, hA.lo⟩).go a hR hd
        have g2 := (k2 ⟨hA.at_, hA.lo⟩).go a hR hd
        intro hH
        exact wpAnyHI_two hoi hoj (by rw [hready]; exact decide_eq_true rfl) (fun K' hK' => g1 hH oi hoi K' hK') (fun K' hK' => g2 hH oj hoj K' hK')
    · cases h
  · cases h

/-! ### loops -/
theorem At.sub {w0 w : World} {kn kn' rows : List KB} {sz : Nat} (h : At w0 w kn rows sz) (hs : kn'.Sublist kn) : At w0 w kn' rows sz :=
  ⟨fun kb hk => h.ok kb (hs.subset hk), h.rok, fun kb hk => h.low kb (hs.subset hk), h.rlow, List.Nodup.sublist ((hs.append_left rows).map _) h.nd, h.size, h.below⟩
theorem At.pick {w0 w : World} {kn kn' rows : List KB} {sz : Nat} (h : At w0 w kn rows sz) (m : List Bool) (e : pick m kn = kn') : At w0 w kn' rows sz := h.sub (e ▸ pick_sub m kn)
def Ctx.inner (c : Ctx) (s : List KI) (J : Act → World → Prop) : Ctx := ⟨c.P, c.ro, c.N, c.ds, Exit.then J (kQ c s), c.w0, c.lo⟩
noncomputable def loopOf (S : Sta) : Option Code := match S.ctl with | .code (.loop b) => some b | _ => none
noncomputable def loopB (S : Sta) : Code := (loopOf S).getD .skip
theorem Rep.sub {N : Nat} {fr fr' : Fr} {a : Act} (h : Rep N fr a) (hs : fr'.map (fun p => fr.get p.1) = fr'.map fun p => some p.2) : Rep N fr' a := by
  refine ⟨h.1, fun t v hv => h.2 t v ?_⟩
  have : ∀ (l : Fr), l.map (fun p => fr.get p.1) = l.map (fun p => some p.2) → l.get t = some v → fr.get t = some v := by
    intro l
    induction l with
    | nil => intro _ hv; cases hv
    | cons p l ih =>
      intro hs hv
      simp only [List.map_cons, List.cons.injEq] at hs
      rw [Fr.get_cons] at hv
      by_cases e : p.1 = t
      · rw [if_pos e] at hv
        cases hv
        rw [← e]
        exact hs.1
      · rw [if_neg e] at hv
        exact ih hs.2 hv
  exact this fr' hs hv
/-- A loop: each round hands on the invariant at a smaller number. -/
theorem loop {c : Ctx} {S : Sta} {w : World} {γ : Type} (fr : γ → Fr) (kn rw : γ → List KB) (inv : Nat → γ → World → Prop) (n0 : Nat) (g0 : γ) (m : List Bool)
    (hA : AtS c S w (rw g0)) (hl : ((loopOf S).isSome, ((fr g0).map fun p => S.fr.get p.1), pick m S.env.known) = (true, ((fr g0).map fun p => some p.2), kn g0)) (hi : inv n0 g0 w)
    (round : ∀ n g w', inv n g w' → ∀ J : Act → World → Prop, (∀ n' g' w'' a, n' < n → Rep c.N (fr g') a → a.defers = c.ds → At c.w0 w'' (kn g') (rw g') w''.heap.size → c.lo ≤ w''.heap.size → inv n' g' w'' → J a w'') →
      AtS (c.inner S.stk J) ⟨.code (loopB S), [], fr g, ⟨kn g, w'.heap.size, [], [], [], [], []⟩⟩ w' (rw g) → Run (c.inner S.stk J) ⟨.code (loopB S), [], fr g, ⟨kn g, w'.heap.size, [], [], [], [], []⟩⟩ w') : Run c S w := by
  refine ⟨fun a hR hd => ?_⟩
  simp only [Prod.mk.injEq] at hl
  obtain ⟨hl, hf, hk⟩ := hl
  obtain ⟨ctl, s, f, e⟩ := S
  unfold loopOf at hl
  split at hl
  · rename_i b hctl
    simp only at hctl
    subst hctl
    show (Code.loop b).wpIn (fen c.ro) 1 c.P (kQ c s) a w
    refine wpIn_loop_ghost (fun n a w => ∃ g, Rep c.N (fr g) a ∧ a.defers = c.ds ∧ At c.w0 w (kn g) (rw g) w.heap.size ∧ c.lo ≤ w.heap.size ∧ inv n g w) n0 ⟨g0, hR.sub hf, hd, (At.pick hA.at_ m hk).resize, hA.lo, hi⟩ ?_
    rintro n a w ⟨g, h1, h2, h3, h3', h4⟩
    exact (round n g w h4 (fun a' w' => ∃ n', n' < n ∧ ∃ g, Rep c.N (fr g) a' ∧ a'.defers = c.ds ∧ At c.w0 w' (kn g) (rw g) w'.heap.size ∧ c.lo ≤ w'.heap.size ∧ inv n' g w') (fun n' g' w'' a hlt q1 q2 q3 q3' q4 => ⟨n', hlt, g', q1, q2, q3, q3', q4⟩) ⟨h3, h3'⟩).go a h1 h2
  · cases hl
def normB (S : Sta) : Bool := match S.ctl, S.stk with | .out .normal, [] => true | _, _ => false
def exitB (S : Sta) : Bool := match S.ctl, S.stk with | .out .normal, _ => false | .out _, [] => true | _, _ => false
/-- The round has come to its end. -/
theorem again {c : Ctx} {s : List KI} {J : Act → World → Prop} {S : Sta} {w : World} {γ : Type} {fr : γ → Fr} {kn rw : γ → List KB} {inv : Nat → γ → World → Prop} {n : Nat}
    (hJ : ∀ n' g' w'' a, n' < n → Rep c.N (fr g') a → a.defers = c.ds → At c.w0 w'' (kn g') (rw g') w''.heap.size → c.lo ≤ w''.heap.size → inv n' g' w'' → J a w'')
    (n' : Nat) (g' : γ) (m : List Bool) (hA : AtS (c.inner s J) S w (rw g')) (hlt : n' < n) (ho : (normB S, ((fr g').map fun p => S.fr.get p.1), pick m S.env.known) = (true, ((fr g').map fun p => some p.2), kn g')) (hi : inv n' g' w) : Run (c.inner s J) S w := by
  refine ⟨fun a hR hd => ?_⟩
  simp only [Prod.mk.injEq] at ho
  obtain ⟨ho, hf, hk⟩ := ho
  obtain ⟨ctl, st, f, e⟩ := S
  unfold normB at ho
  split at ho
  · rename_i h1 h2
    simp only at h1 h2
    subst h1; subst h2
    exact hJ n' g' w a hlt (hR.sub hf) hd (At.pick hA.at_ m hk).resize hA.lo hi
  · cases ho
/-- The loop is left. -/
theorem leave {c : Ctx} {s : List KI} {J : Act → World → Prop} {S : Sta} {w : World} {rows : List KB} (hA : AtS (c.inner s J) S w rows) (ho : exitB S = true) (k : AtS c ⟨S.ctl, s, S.fr, S.env⟩ w rows → Run c ⟨S.ctl, s, S.fr, S.env⟩ w) : Run (c.inner s J) S w := by
  refine ⟨fun a hR hd => ?_⟩
  have k := (k ⟨hA.at_, hA.lo⟩).go a hR hd
  obtain ⟨ctl, st, f, e⟩ := S
  unfold exitB at ho
  split at ho
  · cases ho
  · rename_i x hx h1 h2
    simp only at h1 h2
    subst h1; subst h2
    cases x with
    | normal => exact absurd rfl hx
    | _ => exact k
  · cases ho
end Go.Proofs.Ytfidkgpimlpdbaa

/- Symbolic runs: operations that turn the world by a law; rows that are appended to. -/
namespace Go.Proofs.Ytfidkgpimlpdbaa
open Go.RowKit Go.Shelf

def knS (S : Sta) (kn : List KB) : Sta := ⟨S.ctl, S.stk, S.fr, ⟨kn, S.env.sz, [], [], [], [], []⟩⟩
def noDraw (S : Sta) : Bool := match S.ctl with | .draw _ _ _ _ _ _ => false | .pick _ _ _ _ _ _ _ => false | _ => true
/-- An operation that a law runs, in a chain. -/
theorem opw {c : Ctx} {S : Sta} {w w' : World} {s : Sem Next} {nx : Next} {v : Value} {rows' kn' : List KB} (hs : List Hint) {obs : List Prop} (hcd : AllP obs) (h : (noDraw S, semOf c.P c.N S hs) = (true, some (s, obs)))
    (hr : s.run c.P w = .ok nx w') (hv : nx = .value v ∨ (nx = .skip ∧ v = undef)) (hA : At c.w0 w' kn' rows' w'.heap.size) (hlo : c.lo ≤ w'.heap.size) (k : AtS c (knS (valS c.N S v w'.heap.size) kn') w' rows' → Run c (knS (valS c.N S v w'.heap.size) kn') w') : Run c S w := by
  simp only [Prod.mk.injEq] at h
  obtain ⟨hnd, h⟩ := h
  refine ⟨fun a hR hd => ?_⟩
  have hz := (valS_env h v w'.heap.size).2
  have k := k ⟨by show At c.w0 w' kn' rows' (valS c.N S v w'.heap.size).env.sz; rw [hz]; exact hA, hlo⟩
  unfold semOf at h
  split at h
  · rename_i o all hhead
    split at h
    · rename_i frw kn sz hs' obs' hw
      cases hcc : (plainOp o && o.op.operands.toList.all (knows frw) && (putS c.N S.fr o.dst undef).isSome) with
      | false => rw [hcc] at h; cases h
      | true =>
        rw [hcc] at h
        simp only [cond_true, Option.some.injEq, Prod.mk.injEq] at h
        obtain ⟨rfl, rfl⟩ := h
        simp only [Bool.and_eq_true] at hcc
        obtain ⟨⟨c1, c2⟩, c3⟩ := hcc
        obtain ⟨-, -, -, hwt⟩ := wantS_sound (w0 := c.w0) (N := c.N) hw ⟨by simp, by simp, hcd.mem, by simp⟩
        have hwt' := (hwt a hR).2
        have hexec := (hwt a hR).1.exec c1 c2
        have hrep : Rep c.N (putD c.N S.fr o.dst v) (a.put o.dst v) ∧ (a.put o.dst v).defers = c.ds := ⟨hR.put (putS_any c3 v), by rw [← hd]; cases o.dst <;> rfl⟩
        have key : ∀ (F : Fence) (_ : ∀ f, F.fn f) (Q : Exit → Act → World → Prop) (rest : List Oper), wpListIn F 1 c.P all Q rest (a.put o.dst v) w' → wpListIn F 1 c.P all Q (o :: rest) a w := fun F hF Q rest hn => wpListIn_value hF hwt' (plain_defer c1) (by rw [hexec]; exact hr) hv hn
        obtain ⟨ctl, st, fr, e⟩ := S
        unfold headOf at hhead
        split at hhead
        · rename_i all' o' l hctl
          simp only at hctl
          subst hctl
          cases hhead
          exact key _ (fen_fn _) _ _ (k.go _ hrep.1 hrep.2)
        · rename_i all' o' l hctl
          simp only at hctl
          subst hctl
          cases hhead
          exact key _ wide_fn _ _ (k.go _ hrep.1 hrep.2)
        · rename_i all' listed f kn0 m nd hctl
          simp only at hctl
          subst hctl
          cases hnd
        · rename_i all' listed f kn0 m nd i hctl
          simp only at hctl
          subst hctl
          cases hnd
        · cases hhead
    · cases h
  · cases h

noncomputable def holdL (S : Sta) (kn' : List KB) : List KB := match S.ctl with | .pick _ _ _ _ m _ _ => pick m kn' | .draw _ _ _ _ m _ => pick m kn' | _ => []
noncomputable def holdR (S : Sta) : List KB := match S.ctl with | .pick _ _ _ kn0 _ _ _ => kn0 | .draw _ _ _ kn0 _ _ => kn0 | _ => []
/-- An operation that a law runs, wherever it stands. -/
theorem opwD {c : Ctx} {S : Sta} {w w' : World} {s : Sem Next} {nx : Next} {v : Value} {rows' kn' : List KB} (hs : List Hint) {obs : List Prop} (hcd : AllP obs) (h : (holdL S kn', semOf c.P c.N S hs) = (holdR S, some (s, obs)))
    (hr : s.run c.P w = .ok nx w') (hv : nx = .value v ∨ (nx = .skip ∧ v = undef)) (hA : At c.w0 w' kn' rows' w'.heap.size) (hlo : c.lo ≤ w'.heap.size) (k : AtS c (knS (valS c.N S v w'.heap.size) kn') w' rows' → Run c (knS (valS c.N S v w'.heap.size) kn') w') : Run c S w := by
  simp only [Prod.mk.injEq] at h
  obtain ⟨hhold, h⟩ := h
  refine ⟨fun a hR hd => ?_⟩
  have hz := (valS_env h v w'.heap.size).2
  have k := k ⟨by show At c.w0 w' kn' rows' (valS c.N S v w'.heap.size).env.sz; rw [hz]; exact hA, hlo⟩
  unfold semOf at h
  split at h
  · rename_i o all hhead
    split at h
    · rename_i frw kn sz hs' obs' hw
      cases hcc : (plainOp o && o.op.operands.toList.all (knows frw) && (putS c.N S.fr o.dst undef).isSome) with
      | false => rw [hcc] at h; cases h
      | true =>
        rw [hcc] at h
        simp only [cond_true, Option.some.injEq, Prod.mk.injEq] at h
        obtain ⟨rfl, rfl⟩ := h
        simp only [Bool.and_eq_true] at hcc
        obtain ⟨⟨c1, c2⟩, c3⟩ := hcc
        obtain ⟨-, -, -, hwt⟩ := wantS_sound (w0 := c.w0) (N := c.N) hw ⟨by simp, by simp, hcd.mem, by simp⟩
        have hwt' := (hwt a hR).2
        have hexec := (hwt a hR).1.exec c1 c2
        have hrep : Rep c.N (putD c.N S.fr o.dst v) (a.put o.dst v) ∧ (a.put o.dst v).defers = c.ds := ⟨hR.put (putS_any c3 v), by rw [← hd]; cases o.dst <;> rfl⟩
        have key : ∀ (F : Fence) (_ : ∀ f, F.fn f) (Q : Exit → Act → World → Prop) (rest : List Oper), wpListIn F 1 c.P all Q rest (a.put o.dst v) w' → wpListIn F 1 c.P all Q (o :: rest) a w := fun F hF Q rest hn => wpListIn_value hF hwt' (plain_defer c1) (by rw [hexec]; exact hr) hv hn
        have key2 : ∀ (K' : Act → World → Prop) (Q : Exit → Act → World → Prop), K' (a.put o.dst v) w' → Oper.wpIn Fence.wide 1 c.P o a w K' Q := fun K' Q hn => by
          refine ⟨fun f _ => trivial, ?_⟩
          rw [Oper.semAt_plain _ _ _ (plain_defer c1), hexec, hr]
          rcases hv with rfl | ⟨rfl, rfl⟩
          · exact hn
          · exact hn
        obtain ⟨ctl, st, fr, e⟩ := S
        unfold headOf at hhead
        split at hhead
        · rename_i all' o' l hctl
          simp only at hctl
          subst hctl
          cases hhead
          exact key _ (fen_fn _) _ _ (k.go _ hrep.1 hrep.2)
        · rename_i all' o' l hctl
          simp only at hctl
          subst hctl
          cases hhead
          exact key _ wide_fn _ _ (k.go _ hrep.1 hrep.2)
        · rename_i all' listed f kn0 m nd hctl
          simp only at hctl
          subst hctl
          have hhold : pick m kn' = kn0 := hhold
          have hH' : Hold c.w0 kn0 w' := by
            have := hA.hold.sub (pick_sub m kn')
            rwa [hhold] at this
          split at hhead
          · rename_i i hready
            split at hhead
            · rename_i o' hoi
              cases hhead
              have hval : ∀ v z, valS c.N ⟨.draw all listed (f + 1) kn0 m nd, st, fr, e⟩ v z = ⟨.draw all (listed.setIfInBounds i true) f kn0 m nd, st, putD c.N fr o.dst v, ⟨e.known, z, [], [], [], [], []⟩⟩ := fun v z => by
                unfold valS
                simp only [hready, hoi]
              intro hH
              refine wpAnyHI_one hoi (by rw [hready]; exact decide_eq_true rfl) fun K' hK' => ?_
              rw [if_pos hwt']
              refine key2 _ _ (hK' _ _ ⟨fun _ => hH', ?_⟩)
              rw [hval] at k
              exact k.go _ hrep.1 hrep.2 hH'
            · cases hhead
          · cases hhead
        · rename_i all' listed f kn0 m nd i hctl
          simp only at hctl
          subst hctl
          have hhold : pick m kn' = kn0 := hhold
          have hH' : Hold c.w0 kn0 w' := by
            have := hA.hold.sub (pick_sub m kn')
            rwa [hhold] at this
          split at hhead
          · rename_i o' hoi
            cases hhead
            have hval : ∀ v z, valS c.N ⟨.pick all listed f kn0 m nd i, st, fr, e⟩ v z = ⟨.draw all (listed.setIfInBounds i true) f kn0 m nd, st, putD c.N fr o.dst v, ⟨e.known, z, [], [], [], [], []⟩⟩ := fun v z => by
              unfold valS
              simp only [hoi]
            intro hH o2 ho2 K' hK'
            rw [hoi] at ho2
            cases ho2
            rw [if_pos hwt']
            refine key2 _ _ (hK' _ _ ⟨fun _ => hH', ?_⟩)
            rw [hval] at k
            exact k.go _ hrep.1 hrep.2 hH'
          · cases hhead
        · cases hhead
    · cases h
  · cases h

/-! ### rows -/
/-- v is a slice of n elements with the cells vs; its block, if it has one, is that of ob. -/
def RowV (T : TypeId) (k : Nat) (v : Value) (n : Nat) (vs : List Value) (ob : List KB) : Prop :=
  vs.length = n * k ∧ ((v = .slice none 0 0 ∧ n = 0 ∧ ob = []) ∨ ∃ g cap cur, v = .slice (some ⟨g, 0, none⟩) n cap ∧ ob = [⟨g, .cells cur T (0, 0)⟩] ∧ n ≤ cap ∧ cap ≤ maxLen ∧ cur.size = cap * k ∧ cur.toList.take (n * k) = vs)
theorem RowV.nil (T : TypeId) (k : Nat) : RowV T k (.slice none 0 0) 0 [] [] := ⟨by simp, .inl ⟨rfl, rfl, rfl⟩⟩
theorem RowV.own {T : TypeId} {k n : Nat} {v : Value} {vs : List Value} {ob rest kn : List KB} {w0 w : World} {sz : Nat} (h : RowV T k v n vs ob) (hA : At w0 w kn (ob ++ rest) sz) : w.ownsRow w0.heap.size T k v n vs := by
  refine ⟨h.1, ?_⟩
  rcases h.2 with ⟨h1, h2, -⟩ | ⟨g, cap, cur, h1, h2, h3, h4, h5, h6⟩
  · exact .inl ⟨h1, h2⟩
  · subst h2
    exact .inr ⟨g, cap, cur, h1, hA.rlow ⟨g, .cells cur T (0, 0)⟩ (by simp), hA.rok ⟨g, .cells cur T (0, 0)⟩ (by simp), h3, h4, h5, h6⟩
/-- Behind a law that turns one row of the call's own. -/
theorem At.row {w0 w w' : World} {kn ob rest : List KB} {sz : Nat} {T : TypeId} {k n n' : Nat} {v v' : Value} {vs vs' : List Value} (hA : At w0 w kn (ob ++ rest) sz) (hr : RowV T k v n vs ob)
    (hown : w'.ownsRow w0.heap.size T k v' n' vs') (hg : w.grownBy w' v.ownBlock) (hat : v'.ownBlock = v.ownBlock ∨ ∀ g, v'.ownBlock = some g → w.heap.size ≤ g) :
    ∃ ob', RowV T k v' n' vs' ob' ∧ At w0 w' kn (ob' ++ rest) w'.heap.size := by
  have hob : ∀ g, v.ownBlock = some g → ∃ o, ob = [⟨g, o⟩] := by
    intro g hvg
    rcases hr.2 with ⟨h1, -, -⟩ | ⟨g', cap, cur, h1, h2, -⟩
    · rw [h1] at hvg; cases hvg
    · rw [h1] at hvg
      have : g' = g := by simpa [Value.ownBlock] using hvg
      subst this
      exact ⟨_, h2⟩
  have hnd := hA.nd
  rw [List.append_assoc, List.map_append, List.nodup_append] at hnd
  have hkeep : ∀ kb, kb ∈ rest ++ kn → w'.heap[kb.id]? = w.heap[kb.id]? := by
    intro kb hkb
    have hlt : kb.id < w.heap.size := by
      rcases List.mem_append.1 hkb with h | h
      · exact hA.rlt (List.mem_append_right _ h)
      · exact hA.lt h
    refine hg.block kb.id hlt fun e => ?_
    obtain ⟨o, ho⟩ := hob kb.id e.symm
    exact hnd.2.2 kb.id (by rw [ho]; simp) kb.id (List.mem_map_of_mem hkb) rfl
  have hbel : Below w0.heap.size w0 w' := hA.below.grown hg hA.below.size fun g e => by
    obtain ⟨o, ho⟩ := hob g e
    exact hA.rlow ⟨g, o⟩ (by rw [ho]; simp)
  have mk : ∀ ob', (∀ kb ∈ ob', w'.heap[kb.id]? = some kb.obj ∧ w0.heap.size ≤ kb.id) → ((ob'.map KB.id).Nodup ∧ ∀ a ∈ ob'.map KB.id, ∀ b ∈ (rest ++ kn).map KB.id, a ≠ b) → At w0 w' kn (ob' ++ rest) w'.heap.size := by
    intro ob' h1 h2
    refine ⟨fun kb hk => ?_, fun kb hk => ?_, hA.low, fun kb hk => ?_, ?_, rfl, hbel⟩
    · rw [hkeep kb (List.mem_append_right _ hk)]; exact hA.ok kb hk
    · rcases List.mem_append.1 hk with hk | hk
      · exact (h1 kb hk).1
      · rw [hkeep kb (List.mem_append_left _ hk)]; exact hA.rok kb (List.mem_append_right _ hk)
    · rcases List.mem_append.1 hk with hk | hk
      · exact (h1 kb hk).2
      · exact hA.rlow kb (List.mem_append_right _ hk)
    · rw [List.append_assoc, List.map_append, List.nodup_append]
      exact ⟨h2.1, hnd.2.1, h2.2⟩
  rcases hown.2 with ⟨h1, h2⟩ | ⟨g, cap, cur, h1, h2, h3, h4, h5, h6, h7⟩
  · exact ⟨[], ⟨hown.1, .inl ⟨h1, h2, rfl⟩⟩, mk [] (by simp) ⟨by simp, by simp⟩⟩
  · refine ⟨[⟨g, .cells cur T (0, 0)⟩], ⟨hown.1, .inr ⟨g, cap, cur, h1, rfl, h4, h5, h6, h7⟩⟩, mk _ ?_ ⟨by simp, ?_⟩⟩
    · intro kb hk
      rw [List.mem_singleton.1 hk]
      exact ⟨h3, h2⟩
    · intro a ha b hb
      have ha : a = g := by simpa using ha
      subst ha
      rw [h1] at hat
      simp only [Value.ownBlock] at hat
      rcases hat with e | e
      · obtain ⟨o, ho⟩ := hob a e.symm
        exact hnd.2.2 a (by rw [ho]; simp) b hb
      · have e := e a rfl
        obtain ⟨kb, hkb, rfl⟩ := List.mem_map.1 hb
        have : kb.id < w.heap.size := by
          rcases List.mem_append.1 hkb with h | h
          · exact hA.rlt (List.mem_append_right _ h)
          · exact hA.lt h
        omega
noncomputable def appOf (_ : Program) (_ : Nat) (S : Sta) : Option (TypeId × Value × Value × TypeId) :=
  match headOf S with
  | some (⟨_, .call ⟨.builtin .append, #[x, y], #[t, t']⟩, ty, _, _, none⟩, _) => cond (Nat.beq t t' && knows S.fr x && knows S.fr y) (some (t, rho S.fr x, rho S.fr y, ty)) none
  | _ => none
noncomputable def appSem (t ty : TypeId) (x y : Value) : Sem Next := (Builtin.append_ #[t, t] ty #[x, y]).bind fun v => .pure (.value v)
/-- What the element type says. -/
noncomputable def infoOf (P : Program) (t : TypeId) : Option (TypeId × Value × Nat × Nat) :=
  match P.underlying t with
  | some (.slice e) => match P.info? e with
    | some i => match i.zero with
      | some z => cond (Nat.beq z.cells.size i.size && Nat.blt 0 i.size) (some (e, z, i.size, i.bytes)) none
      | none => none
    | none => none
  | _ => none
theorem infoOf_spec {P : Program} {t e : TypeId} {z : Value} {size bytes : Nat} (h : infoOf P t = some (e, z, size, bytes)) : ∃ i, P.underlying t = some (.slice e) ∧ P.info? e = some i ∧ i.zero = some z ∧ i.size = size ∧ i.bytes = bytes ∧ z.cells.size = size ∧ 0 < size := by
  unfold infoOf at h
  split at h
  · rename_i e' hu
    split at h
    · rename_i i hi
      split at h
      · rename_i z' hz
        cases hc : (Nat.beq z'.cells.size i.size && Nat.blt 0 i.size) with
        | false => rw [hc] at h; cases h
        | true =>
          rw [hc] at h
          cases h
          rw [Bool.and_eq_true] at hc
          exact ⟨i, hu, hi, hz, rfl, rfl, Nat.eq_of_beq_eq_true hc.1, Nat.le_of_ble_eq_true hc.2⟩
      · cases h
    · cases h
  · cases h
/-- append to a row of the call's own; what is appended lies in a known block, from its head on. -/
theorem app {c : Ctx} {S : Sta} {w : World} {ob rest : List KB} {t e ty : TypeId} {z v : Value} {size bytes n m cp j : Nat} {vs news : List Value} {kb : KB} (hA : AtS c S w (ob ++ rest)) (hr : RowV e size v n vs ob)
    (h : (noDraw S, appOf c.P c.N S, semOf c.P c.N S [], infoOf c.P t) = (true, some (t, v, .slice (some ⟨kb.id, 0, none⟩) m cp, ty), some (appSem t ty v (.slice (some ⟨kb.id, 0, none⟩) m cp), []), some (e, z, size, bytes)))
    (hj : nth S.env.known j = some kb) {cs : Array Value} {T : TypeId} (hkb : kb.obj = .cells cs T (0, 0)) (hcs : cs.toList.take (m * size) = news) (hl : news.length = m * size) (h1 : (news.all fun u => oneCell u) = true)
    (hmax : n + m ≤ 1000000000) (hb : bytes ≤ 140000)
    (k : ∀ v' w' ob', RowV e size v' (n + m) (vs ++ news) ob' → (v' = .slice none 0 0 ↔ v = .slice none 0 0 ∧ m = 0) → AtS c (knS (valS c.N S v' w'.heap.size) S.env.known) w' (ob' ++ rest) → Run c (knS (valS c.N S v' w'.heap.size) S.env.known) w') : Run c S w := by
  simp only [Prod.mk.injEq] at h
  obtain ⟨h0, -, hsem, hinf⟩ := h
  obtain ⟨i, ht, hi, hz, hsize, hby, hzs, hsz⟩ := infoOf_spec hinf
  rw [nth_eq] at hj
  have hkm := List.mem_of_getElem? hj
  have hko := hA.at_.ok kb hkm
  rw [hkb] at hko
  have hone : ∀ u ∈ news, u.oneCell' = true := by
    intro u hu
    have := List.all_eq_true.1 h1 u hu
    cases u <;> first | rfl | cases this
  obtain ⟨v', w', hrun, hown, hg, hnil, hat⟩ := run_append_own_at (P := c.P) w c.w0.heap.size t ty e i z size bytes ht hi hz hsize hby hzs hsz v n vs (hr.own hA.at_) ⟨kb.id, 0, none⟩ m cp news hl (fun q u hu => by
    refine cell_of_obj (T := T) (fz := (0, 0)) (by unfold Addr.add; split <;> exact hko) (by unfold Addr.add; split <;> rfl) ?_
    have hq : (Addr.add ⟨kb.id, 0, none⟩ q).off = q := by rw [add_place]; simp
    rw [hq]
    rw [← hcs] at hu
    have hlt : q < m * size := by rw [← hl, ← hcs]; exact (List.getElem?_eq_some_iff.1 hu).1
    rw [List.getElem?_take_of_lt hlt] at hu
    simpa using hu) hone (by simp only [maxLen]; omega) (by
      have : (n + m) * bytes ≤ 1000000000 * 140000 := Nat.mul_le_mul hmax hb
      omega) hA.below.size
  obtain ⟨ob', hr', hA'⟩ := At.row hA.at_ hr hown hg (by rcases hat with h | h; exact .inl h; exact .inr fun g e => by rw [h] at e; cases e; exact Nat.le_refl _)
  refine opw [] on (s := appSem t ty v (.slice (some ⟨kb.id, 0, none⟩) m cp)) (by rw [h0, hsem]) (nx := .value v') ?_ (.inl rfl) hA' (Nat.le_trans hA.lo hg.size) (k v' w' ob' hr' hnil)
  unfold appSem
  rw [Sem.run_bind', hrun]
  rfl
end Go.Proofs.Ytfidkgpimlpdbaa

/- Symbolic runs: calls that turn what is known; appends whose source is read from the world. -/
namespace Go.Proofs.Ytfidkgpimlpdbaa
open Go.RowKit Go.Shelf

/-- A call, in a chain, that may turn what is known. -/
theorem callW {c : Ctx} {S : Sta} {w : World} {rows : List KB} {f : FuncId} {args : Array Value} {R : Ending → World → Prop} (hA : AtS c S w rows) (hs : List Hint) {obs : List Prop} (hcd : AllP obs) (hc : Calls c.P f args w R)
    (h : (noDraw S, callOf c.P c.N S hs) = (true, some (f, args, obs)))
    (k : ∀ e w', R e w' → ∃ v kn' rows', e = .returned v ∧ At c.w0 w' kn' rows' w'.heap.size ∧ w.heap.size ≤ w'.heap.size ∧ (AtS c (knS (valS c.N S v w'.heap.size) kn') w' rows' → Run c (knS (valS c.N S v w'.heap.size) kn') w')) : Run c S w := by
  simp only [Prod.mk.injEq] at h
  obtain ⟨hnd, h⟩ := h
  refine ⟨fun a hR hd => ?_⟩
  unfold callOf at h
  split at h
  · rename_i s obs' hsem
    split at h
    · rename_i f' args' kn sz hs' hsy
      simp only [Option.some.injEq, Prod.mk.injEq] at h
      obtain ⟨rfl, rfl, rfl⟩ := h
      obtain ⟨-, -, hrun⟩ := sy_read (w0 := c.w0) _ _ _ _ hsy ⟨by simp, by simp, by simp, by simp⟩
      have h := hsem
      unfold semOf at h
      split at h
      · rename_i o all hhead
        split at h
        · rename_i frw kn sz hs' obs' hw
          cases hcc : (plainOp o && o.op.operands.toList.all (knows frw) && (putS c.N S.fr o.dst undef).isSome) with
          | false => rw [hcc] at h; cases h
          | true =>
            rw [hcc] at h
            simp only [cond_true, Option.some.injEq, Prod.mk.injEq] at h
            obtain ⟨hse, rfl⟩ := h
            simp only [Bool.and_eq_true] at hcc
            obtain ⟨⟨c1, c2⟩, c3⟩ := hcc
            obtain ⟨-, -, -, hwt⟩ := wantS_sound (w0 := c.w0) (N := c.N) hw ⟨by simp, by simp, hcd.mem, by simp⟩
            have hwt' := (hwt a hR).2
            have hexec := (hwt a hR).1.exec c1 c2
            rw [hse] at hexec
            have hrep : ∀ v, Rep c.N (putD c.N S.fr o.dst v) (a.put o.dst v) ∧ (a.put o.dst v).defers = c.ds := fun v => ⟨hR.put (putS_any c3 v), by rw [← hd]; cases o.dst <;> rfl⟩
            have key : ∀ (F : Fence) (_ : ∀ f, F.fn f) (_ : F = Fence.wide ∨ F = fen c.ro) (Q : Exit → Act → World → Prop) (rest : List Oper), (∀ v w' kn' rows', At c.w0 w' kn' rows' w'.heap.size → w.heap.size ≤ w'.heap.size → (AtS c (knS (valS c.N S v w'.heap.size) kn') w' rows' → Run c (knS (valS c.N S v w'.heap.size) kn') w') → wpListIn F 1 c.P all Q rest (a.put o.dst v) w') → wpListIn F 1 c.P all Q (o :: rest) a w := fun F hF hFF Q rest hnx => by
              unfold wpListIn
              rw [if_pos hwt']
              refine ⟨fun f _ => hF f, ?_⟩
              rw [Oper.semAt_plain _ _ _ (plain_defer c1), hexec, hrun w hA.at_.hold]
              refine ⟨fun _ => Nat.le_refl _, (callsIn_any hFF hc _).mono fun e w' hRe => ?_⟩
              obtain ⟨v, kn', rows', rfl, hat, hsz, hrun'⟩ := k e w' hRe
              exact hnx v w' kn' rows' hat hsz hrun'
            have mk : ∀ v w' kn' rows', At c.w0 w' kn' rows' w'.heap.size → w.heap.size ≤ w'.heap.size → AtS c (knS (valS c.N S v w'.heap.size) kn') w' rows' := fun v w' kn' rows' hat hsz => ⟨by show At c.w0 w' kn' rows' (valS c.N S v w'.heap.size).env.sz; rw [(valS_env hsem v w'.heap.size).2]; exact hat, Nat.le_trans hA.lo hsz⟩
            obtain ⟨ctl, st, fr, e⟩ := S
            unfold headOf at hhead
            split at hhead
            · rename_i all' o' l hctl
              simp only at hctl
              subst hctl
              cases hhead
              exact key _ (fen_fn _) (.inr rfl) _ _ fun v w' kn' rows' hat hsz hr => (hr (mk v w' kn' rows' hat hsz)).go _ (hrep v).1 (hrep v).2
            · rename_i all' o' l hctl
              simp only at hctl
              subst hctl
              cases hhead
              exact key _ wide_fn (.inl rfl) _ _ fun v w' kn' rows' hat hsz hr => (hr (mk v w' kn' rows' hat hsz)).go _ (hrep v).1 (hrep v).2
            · rename_i all' listed f kn0 m nd hctl
              simp only at hctl
              subst hctl
              cases hnd
            · rename_i all' listed f kn0 m nd i hctl
              simp only at hctl
              subst hctl
              cases hnd
            · cases hhead
        · cases h
      · cases h
    · cases h
  · cases h
theorem ones_of {news : List Value} (h1 : (news.all fun u => oneCell u) = true) : ∀ u ∈ news, u.oneCell' = true := by
  intro u hu
  have := List.all_eq_true.1 h1 u hu
  cases u <;> first | rfl | cases this
/-- append to a row of the call's own. -/
theorem appG {c : Ctx} {S : Sta} {w : World} {ob rest : List KB} {t e ty : TypeId} {z v : Value} {size bytes n m cp : Nat} {a : Addr} {vs : List Value} (news : List Value) (hA : AtS c S w (ob ++ rest)) (hr : RowV e size v n vs ob)
    (h : (noDraw S, appOf c.P c.N S, semOf c.P c.N S [], infoOf c.P t) = (true, some (t, v, .slice (some a) m cp, ty), some (appSem t ty v (.slice (some a) m cp), []), some (e, z, size, bytes)))
    (hl : news.length = m * size) (hnews : ∀ j u, news[j]? = some u → w.cell? (a.add j) = some u) (h1 : (news.all fun u => oneCell u) = true) (hmax : n + m ≤ 1000000000) (hb : bytes ≤ 140000)
    (k : ∀ v' w' ob', RowV e size v' (n + m) (vs ++ news) ob' → (v' = .slice none 0 0 ↔ v = .slice none 0 0 ∧ m = 0) → (v'.ownBlock = v.ownBlock ∨ v'.ownBlock = some w.heap.size) → w.heap.size ≤ w'.heap.size → AtS c (knS (valS c.N S v' w'.heap.size) S.env.known) w' (ob' ++ rest) → Run c (knS (valS c.N S v' w'.heap.size) S.env.known) w') : Run c S w := by
  simp only [Prod.mk.injEq] at h
  obtain ⟨h0, -, hsem, hinf⟩ := h
  obtain ⟨i, ht, hi, hz, hsize, hby, hzs, hsz⟩ := infoOf_spec hinf
  obtain ⟨v', w', hrun, hown, hg, hnil, hat⟩ := run_append_own_at (P := c.P) w c.w0.heap.size t ty e i z size bytes ht hi hz hsize hby hzs hsz v n vs (hr.own hA.at_) a m cp news hl hnews (ones_of h1) (by simp only [maxLen]; omega) (by
      have : (n + m) * bytes ≤ 1000000000 * 140000 := Nat.mul_le_mul hmax hb
      omega) hA.below.size
  obtain ⟨ob', hr', hA'⟩ := At.row hA.at_ hr hown hg (by rcases hat with h | h; exact .inl h; exact .inr fun g e => by rw [h] at e; cases e; exact Nat.le_refl _)
  refine opw [] on (s := appSem t ty v (.slice (some a) m cp)) (by rw [h0, hsem]) (nx := .value v') ?_ (.inl rfl) hA' (Nat.le_trans hA.lo hg.size) (k v' w' ob' hr' hnil hat hg.size)
  unfold appSem
  rw [Sem.run_bind', hrun]
  rfl
/-- append to a slice that has no room: a new row. -/
theorem appF {c : Ctx} {S : Sta} {w : World} {rows : List KB} {t e ty : TypeId} {z : Value} {size bytes n cap m cp : Nat} {b a : Addr} (olds news : List Value) (hA : AtS c S w rows)
    (h : (noDraw S, appOf c.P c.N S, semOf c.P c.N S [], infoOf c.P t) = (true, some (t, .slice (some b) n cap, .slice (some a) m cp, ty), some (appSem t ty (.slice (some b) n cap) (.slice (some a) m cp), []), some (e, z, size, bytes)))
    (hlo : olds.length = n * size) (holds : ∀ j u, olds[j]? = some u → w.cell? (b.add j) = some u) (hl : news.length = m * size) (hnews : ∀ j u, news[j]? = some u → w.cell? (a.add j) = some u) (hg : cap < n + m) (hmax : n + m ≤ 1000000000) (hb : bytes ≤ 140000)
    (k : ∀ v' w' ob', RowV e size v' (n + m) (olds ++ news) ob' → (∀ g, v'.ownBlock = some g → w.heap.size ≤ g) → Below w.heap.size w w' → AtS c (knS (valS c.N S v' w'.heap.size) S.env.known) w' (ob' ++ rows) → Run c (knS (valS c.N S v' w'.heap.size) S.env.known) w') : Run c S w := by
  simp only [Prod.mk.injEq] at h
  obtain ⟨h0, -, hsem, hinf⟩ := h
  obtain ⟨i, ht, hi, hz, hsize, hby, hzs, hsz⟩ := infoOf_spec hinf
  obtain ⟨v', w', hrun, hown, hgr⟩ := run_append_arg_grows (P := c.P) w t ty e i z size bytes ht hi hz hsize hby hzs hsz b n cap olds hlo holds a m cp news hl hnews hg (by simp only [maxLen]; omega) (by
      have : (n + m) * bytes ≤ 1000000000 * 140000 := Nat.mul_le_mul hmax hb
      omega)
  have hge : ∀ g, v'.ownBlock = some g → w.heap.size ≤ g := fun g e => by
    rcases hown.2 with ⟨h1, -⟩ | ⟨g', cap', cur, h1, h2, -⟩
    · rw [h1] at e; cases e
    · rw [h1] at e
      have : g' = g := by simpa [Value.ownBlock] using e
      omega
  have hown' : w'.ownsRow c.w0.heap.size e size v' (n + m) (olds ++ news) := by
    refine ⟨hown.1, ?_⟩
    rcases hown.2 with h1 | ⟨g', cap', cur, h1, h2, h3⟩
    · exact .inl h1
    · exact .inr ⟨g', cap', cur, h1, Nat.le_trans hA.below.size h2, h3⟩
  obtain ⟨ob', hr', hA'⟩ := At.row (ob := []) hA.at_ (RowV.nil e size) hown' hgr (.inr hge)
  refine opw [] on (s := appSem t ty (.slice (some b) n cap) (.slice (some a) m cp)) (by rw [h0, hsem]) (nx := .value v') ?_ (.inl rfl) hA' (Nat.le_trans hA.lo hgr.size) (k v' w' ob' hr' hge ((Below.refl _ _).grown hgr (Nat.le_refl _) (fun _ e => by cases e)))
  unfold appSem
  rw [Sem.run_bind', hrun]
  rfl
end Go.Proofs.Ytfidkgpimlpdbaa

/- Symbolic runs: cells of a row of the call's own are written. -/
namespace Go.Proofs.Ytfidkgpimlpdbaa
open Go.RowKit Go.Shelf

theorem At.swap {w0 w : World} {kn rows : List KB} {sz : Nat} (h : At w0 w kn rows sz) : At w0 w rows kn sz :=
  ⟨h.rok, h.ok, h.rlow, h.low, ((List.perm_append_comm (l₁ := rows) (l₂ := kn)).map KB.id).nodup_iff.1 h.nd, h.size, h.below⟩
theorem At.setHead {w0 w : World} {kn rest : List KB} {sz g : Nat} {cur : Array Value} {T : TypeId} (h : At w0 w kn (⟨g, .cells cur T (0, 0)⟩ :: rest) sz) (o : Nat) (v : Value) (_ : o < cur.size) :
    At w0 (w.setCell ⟨g, o, none⟩ v) kn (⟨g, .cells (cur.setIfInBounds o v) T (0, 0)⟩ :: rest) sz := by
  have hg := h.rok ⟨g, .cells cur T (0, 0)⟩ List.mem_cons_self
  have hlt : g < w.heap.size := (Array.getElem?_eq_some_iff.1 hg).1
  have hn : (w.setCell ⟨g, o, none⟩ v).heap[g]? = some (.cells (cur.setIfInBounds o v) T (0, 0)) := by
    have hg' : w.heap[g]? = some (.cells cur T (0, 0)) := hg
    simp [World.setCell, Array.getElem?_modify, hg']
  have := (At.swap h).turn (i := 0) (kb := ⟨g, .cells cur T (0, 0)⟩) rfl (.cells (cur.setIfInBounds o v) T (0, 0)) (w' := w.setCell ⟨g, o, none⟩ v) (World.size_setCell _ _ _) hn (fun k hk => Below.heap_setCell w ⟨g, o, none⟩ v k hk) rfl rfl rfl
  exact At.swap this
theorem At.setRow {w0 : World} {kn rest : List KB} {sz g : Nat} {T : TypeId} : ∀ (vs : List Value) (o : Nat) (w : World) (cur : Array Value), At w0 w kn (⟨g, .cells cur T (0, 0)⟩ :: rest) sz → o + vs.length ≤ cur.size →
    ∃ cur' : Array Value, cur'.size = cur.size ∧ (∀ j, cur'[j]? = if o ≤ j ∧ j < o + vs.length then vs[j - o]? else cur[j]?) ∧ At w0 (w.setCells g o vs) kn (⟨g, .cells cur' T (0, 0)⟩ :: rest) sz
  | [], o, w, cur, h, _ => ⟨cur, rfl, fun j => by rw [if_neg (by intro h; have := h.1; have := h.2; simp at this; omega)], h⟩
  | v :: vs, o, w, cur, h, ho => by
    rw [List.length_cons] at ho
    obtain ⟨cur', h1, h2, h3⟩ := At.setRow vs (o + 1) (w.setCell ⟨g, o, none⟩ v) (cur.setIfInBounds o v) (h.setHead o v (by omega)) (by simp; omega)
    refine ⟨cur', by simpa using h1, fun j => ?_, h3⟩
    rw [h2 j, List.length_cons]
    by_cases hj : o = j
    · subst hj
      rw [if_neg (by omega), if_pos (by omega)]
      simp [show o < cur.size by omega]
    · by_cases hc : o + 1 ≤ j ∧ j < o + 1 + vs.length
      · rw [if_pos hc, if_pos (by omega), show j - o = (j - (o + 1)) + 1 by omega]
        rfl
      · rw [if_neg hc, if_neg (by omega), Array.getElem?_setIfInBounds_ne hj]
noncomputable def clrSem (t ty : TypeId) (x : Value) : Sem Next := (Builtin.clear_ #[t] ty #[x]).bind fun v => .pure (.value v)
theorem subA_lo {b off m k : Nat} : subA (some ⟨b, off, none⟩) 0 m k = some ⟨b, off, none⟩ := by
  unfold subA
  split
  · rfl
  · simp [add_place]
theorem subA_at {b off l m k : Nat} (h : m ≠ l) : subA (some ⟨b, off, none⟩) l m k = some ⟨b, off + l * k, none⟩ := by
  unfold subA
  rw [if_neg h]
  simp [add_place]
/-- A row that a call has made. -/
theorem At.own {w0 w w' : World} {kn rows : List KB} {sz : Nat} {T : TypeId} {k n : Nat} {v : Value} {vs : List Value} (h : At w0 w kn rows sz) (hb : Below w.heap.size w w') (hown : w'.ownsRow w.heap.size T k v n vs) : ∃ ob, RowV T k v n vs ob ∧ At w0 w' kn (ob ++ rows) w'.heap.size := by
  have h' := h.call hb
  rcases hown.2 with ⟨h1, h2⟩ | ⟨g, cap, cur, h1, h2, h3, h4, h5, h6, h7⟩
  · exact ⟨[], ⟨hown.1, .inl ⟨h1, h2, rfl⟩⟩, h'⟩
  · refine ⟨[⟨g, .cells cur T (0, 0)⟩], ⟨hown.1, .inr ⟨g, cap, cur, h1, rfl, h4, h5, h6, h7⟩⟩, ⟨h'.ok, fun kb hk => ?_, h'.low, fun kb hk => ?_, ?_, rfl, h'.below⟩⟩
    · rcases List.mem_append.1 hk with hk | hk
      · rw [List.mem_singleton.1 hk]; exact h3
      · exact h'.rok kb hk
    · rcases List.mem_append.1 hk with hk | hk
      · rw [List.mem_singleton.1 hk]; exact Nat.le_trans h.below.size h2
      · exact h'.rlow kb hk
    · rw [List.append_assoc, List.map_append, List.nodup_append]
      refine ⟨by simp, h'.nd, ?_⟩
      intro a ha b hb2 e
      simp only [List.map_cons, List.map_nil, List.mem_singleton] at ha
      subst ha
      obtain ⟨kb, hkb, rfl⟩ := List.mem_map.1 hb2
      have hlt : kb.id < w.heap.size := by
        rcases List.mem_append.1 hkb with hk | hk
        · exact h.rlt hk
        · exact h.lt hk
      omega
end Go.Proofs.Ytfidkgpimlpdbaa
