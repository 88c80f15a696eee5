/- lag: the least of a chain. -/
import Derived.Test.YtjidllaaokdjhaaLW
namespace Go.Proofs.Ytjidllaaokdjhaa
open Go.RowKit Go.Shelf

attribute [local go_sem] Oper.semAt_some

theorem mfind_mset {p q : Sp} {v : Int} : ∀ {m : List (Sp × Int)}, mget 0 (mset p v m) q = if q = p then v else mget 0 m q
  | [] => by
    unfold mset mget mfind
    by_cases h : q = p
    · simp [h]
    · simp [h, mfind]
  | x :: m => by
    unfold mset
    by_cases hp : p = x.1
    · rw [if_pos hp]
      unfold mget mfind
      by_cases h : q = p
      · simp [h, hp]
      · simp [h, ← hp]
    · rw [if_neg hp]
      have ih := mfind_mset (p := p) (q := q) (v := v) (m := m)
      unfold mget at ih ⊢
      unfold mfind
      by_cases h : q = x.1
      · simp [h]
        exact fun e => absurd e.symm hp
      · simp only [h, if_false]
        cases h1 : mfind q (mset p v m) <;> cases h2 : mfind q m <;> rw [h1, h2] at ih <;> simpa using ih
theorem mget_mdel {p q : Sp} (hq : q ≠ p) : ∀ {m : List (Sp × Int)}, mget 0 (mdel p m) q = mget 0 m q
  | [] => rfl
  | x :: m => by
    unfold mdel
    by_cases hp : p = x.1
    · rw [if_pos hp]
      unfold mget
      conv => rhs; unfold mfind
      rw [if_neg (by rw [← hp]; exact hq)]
      cases mfind q m <;> rfl
    · rw [if_neg hp]
      have ih := mget_mdel hq (m := m)
      unfold mget at ih ⊢
      unfold mfind
      by_cases h : q = x.1
      · simp [h]
      · simp only [h, if_false]
        cases h1 : mfind q (mdel p m) <;> cases h2 : mfind q m <;> rw [h1, h2] at ih <;> simpa using ih

/-- The least of the first s + 1 shafts of a chain for t turns. -/
def lvl (css : List (List Int)) : Nat → Nat → Int
  | 0, t => leastF (css[0]?.getD []) t
  | s + 1, t => (bestO (fun p : Part 0 t => leastF (css[s + 1]?.getD []) p.1 + lvl css s (t - p.1)) ltI (partsS 0 t)).getD 0
theorem lvl_mem (css : List (List Int)) (s t : Nat) : ∃ p, p ≤ t ∧ lvl css (s + 1) t = leastF (css[s + 1]?.getD []) p + lvl css s (t - p) := by
  have hne : partsS 0 t ≠ [] := by
    intro e
    have h0 := partsS_len 0 t
    rw [e, List.length_nil] at h0
    omega
  obtain ⟨v, hv⟩ := bestO_some (fun p : Part 0 t => leastF (css[s + 1]?.getD []) p.1 + lvl css s (t - p.1)) ltI _ none (.inl hne)
  rcases bestO_mem _ _ _ _ _ hv with h | ⟨p, -, hp⟩
  · cases h
  · exact ⟨p.1, (parts_mem.1 p.2).2, by rw [lvl]; unfold bestO; rw [hv]; exact hp⟩
theorem lvl_bound {css : List (List Int)} (hv : ∀ j, j < css.length → Nums (css[j]?.getD [])) : ∀ (s t : Nat), s < css.length → 0 ≤ lvl css s t ∧ lvl css s t ≤ 10000 * t + 10000 * (s + 1)
  | 0, t, h => by
    have := leastF_bound (hv 0 h) t
    rw [lvl]
    omega
  | s + 1, t, h => by
    obtain ⟨p, hp, e⟩ := lvl_mem css s t
    have a := leastF_bound (hv (s + 1) h) p
    have b := lvl_bound hv s (t - p) (by omega)
    rw [e]
    omega

set_option maxRecDepth 100000 in
set_option maxHeartbeats 4000000 in
theorem least1_any (w : World) (b1 b2 b3 mb B : Nat) (A : Option Addr) (n c : Nat) (xs : List Int) (m : List (Sp × Int)) (bef : Int) (p r : Nat) (h1 : Boxed w b1 87 (.slice A n c)) (h2 : Boxed w b2 117 (.map (some mb))) (h3 : Boxed w b3 3 (.int .i64 bef))
    (hx : IntsAt w B A n xs) (hB : B ≤ w.heap.size) (hv : Nums xs) (hp : p ≤ 1000) (hm : MapAt Int encI w mb m) (hb : 0 ≤ mget 0 m (bef, (r : Int)) ∧ mget 0 m (bef, (r : Int)) ≤ 1000000000) :
    Calls Try.prog 96 #[cutV ((p : Int), (r : Int)), .pointer (some ⟨b1, 0, none⟩), .pointer (some ⟨b2, 0, none⟩), .pointer (some ⟨b3, 0, none⟩)] w fun e W' => e = .returned (encI (leastF xs p + mget 0 m (bef, (r : Int)))) ∧ Below w.heap.size w W' := by
  have c1 := h1.cell
  have c2 := h2.cell
  have c3 := h3.cell
  have l1 := h1.lt
  have l2 := h2.lt
  have l3 := h3.lt
  have hlb := leastF_bound hv p
  obtain ⟨x, hxe⟩ : ∃ x, x = mget 0 m (bef, (r : Int)) := ⟨_, rfl⟩
  obtain ⟨y, hye⟩ : ∃ y, y = leastF xs p := ⟨_, rfl⟩
  have hlk : ∀ k, (Instr.lookup 117 (.map (some mb)) (spV (bef, (r : Int))) false).run Try.prog ((w.alloc (.cells #[.int .i64 (p : Int), .int .i64 (r : Int)] 122)).drewN k) = .ok (.int .i64 x) ((w.alloc (.cells #[.int .i64 (p : Int), .int .i64 (r : Int)] 122)).drewN k) := fun k => by
    rw [hxe]
    exact lookup_pl (enc := encI) ((hm.alloc _).same (W' := (w.alloc (.cells #[.int .i64 (p : Int), .int .i64 (r : Int)] 122)).drewN k) rfl) 117 2 0 Try.underlying117 (fun w => by kernel_rfl) (bef, (r : Int))
  have hcl : ∀ k, Calls Try.prog 93 #[.slice A n c, .int .i64 (p : Int)] ((w.alloc (.cells #[.int .i64 (p : Int), .int .i64 (r : Int)] 122)).drewN k) fun e w' => e = .returned (.int .i64 y) ∧ ∃ q, w' = ((w.alloc (.cells #[.int .i64 (p : Int), .int .i64 (r : Int)] 122)).drewN k).drewN q := fun k => by
    rw [hye]
    exact shaftLeast_any _ B A n c p xs ((hx.alloc hB _).drewN _) hv hp
  rw [← hxe] at hb ⊢
  rw [← hye] at hlb ⊢
  have e6 : IntKind.i64.wrap (y + x) = y + x := by rw [IntKind.wrap_i64]; omega
  have Hcl := Lib.hid hcl
  clear hxe hye hb hlb h1 h2 h3 hcl hx hv hp hm
  unfold cutV encI
  go_enter Try.func96, Try.ntmps96
  go_wp2
  go_quiet ((go_at_call 93; exact Calls.quiet_of (Hcl.out _)))
  go_wp2
  go_ret
  exact ⟨by simp, ((Below.refl _ w).alloc (Nat.le_refl _) _).trans (below_drewN _ _)⟩
end Go.Proofs.Ytjidllaaokdjhaa
