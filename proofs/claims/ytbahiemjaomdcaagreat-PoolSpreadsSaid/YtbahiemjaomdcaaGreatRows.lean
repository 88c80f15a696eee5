/-
  No cell of these rows narrows 'for every input' (looked for: loops, veiled, ifaces, maps, wideKeys, modest, calm, conditions, laid).
  DERIVED. THE GIVEN ROWS OF THIS SEAT. 3 by the template 'for every input the law returns true; each argument reads behind the call as it read before'; 0 by the template 'total and deterministic' (their statements: YtbahiemjaomdcaaGreatTotals.lean).
  GIVEN WITH THE SEED: the statements are not yours to turn. If you find one false, say at which input.
  Laid BY PROGRAM, IN A SANDBOX (cutbox-rows.mjs): the forced cells as the released guide's own fill.sh prints them over the translation 1f493d157280e92d… (all of the seat's roots in one cut). By AI agents, Wed Nov 11 2026. No macro, syntax, notation, axiom, sorry.
-/
import Derived.Test.YtbahiemjaomdcaaGreatChecked
import GoSem.Claim
import GoSem.ClaimJoined
import GoSem.ClaimMapViews
import Derived.JoinedTies
import Derived.KernelRfl
namespace Go.Proofs.YtbahiemjaomdcaaGreat
/- THE CELL 'sum', in the pinned program and in every row, IS THE sha256 OF THE DUMP (.gsa) THAT YtbahiemjaomdcaaGreatProg.lean LOADS. Nothing in Lean hashes anything: it is a label: what it is worth is what the hold of that sum in a sandbox is worth. -/
noncomputable def Tryz.pinned : Pinned := { name := "ytbahiemjaomdcaagreat", sum := "1f493d157280e92d67de7accc7ead3ba6f6c020c0594cdf56fe774c1c2f9f992", checked := Tryz.checked }
namespace Rows
def none {H : Type} : Left H := { results := [], args := [] }

/-- 'quinellalaw03.PoolPays': WHATEVER THE INPUT: true; the input reads as it did. -/
def poolPaysSpec : ChangeSpec := { name := "poolPays", fn := fun _ => fun
  | [d1, d2, d3] => { results := [.lit (.bool true)], args := [d1, d2, d3] }
  | _ => none }
def poolPaysRow : OpenClaim := { program := "ytbahiemjaomdcaagreat", sum := "1f493d157280e92d67de7accc7ead3ba6f6c020c0594cdf56fe774c1c2f9f992", func := "quinella/quinellalaw03.PoolPays", spec := "poolPays", unfollowed := true, recurses := true, plainKeys := false, apart := false }
def PoolPaysSaid : Prop := poolPaysRow.holds Tryz.pinned (OpenSpec.ofChange poolPaysSpec)

/-- ITS FALSE NEIGHBOUR: 'it returns false'. Refute it at one input. -/
def poolPaysWrong : ChangeSpec := { name := "poolPays", fn := fun _ => fun
  | [d1, d2, d3] => { results := [.lit (.bool false)], args := [d1, d2, d3] }
  | _ => none }
def PoolPaysWrongFalsely : Prop := poolPaysRow.holds Tryz.pinned (OpenSpec.ofChange poolPaysWrong)

/-- 'quinellalaw03.PoolSpreads': WHATEVER THE INPUT: true; the input reads as it did. -/
def poolSpreadsSpec : ChangeSpec := { name := "poolSpreads", fn := fun _ => fun
  | [d] => { results := [.lit (.bool true)], args := [d] }
  | _ => none }
def poolSpreadsRow : OpenClaim := { program := "ytbahiemjaomdcaagreat", sum := "1f493d157280e92d67de7accc7ead3ba6f6c020c0594cdf56fe774c1c2f9f992", func := "quinella/quinellalaw03.PoolSpreads", spec := "poolSpreads", unfollowed := true, recurses := true, plainKeys := false, apart := false }
def PoolSpreadsSaid : Prop := poolSpreadsRow.holds Tryz.pinned (OpenSpec.ofChange poolSpreadsSpec)

/-- ITS FALSE NEIGHBOUR: 'it returns false'. Refute it at one input. -/
def poolSpreadsWrong : ChangeSpec := { name := "poolSpreads", fn := fun _ => fun
  | [d] => { results := [.lit (.bool false)], args := [d] }
  | _ => none }
def PoolSpreadsWrongFalsely : Prop := poolSpreadsRow.holds Tryz.pinned (OpenSpec.ofChange poolSpreadsWrong)

/-- 'quinellalaw03.PoolShared': WHATEVER THE INPUT: true; the input reads as it did. -/
def poolSharedSpec : ChangeSpec := { name := "poolShared", fn := fun _ => fun
  | [d1, d2] => { results := [.lit (.bool true)], args := [d1, d2] }
  | _ => none }
def poolSharedRow : OpenClaim := { program := "ytbahiemjaomdcaagreat", sum := "1f493d157280e92d67de7accc7ead3ba6f6c020c0594cdf56fe774c1c2f9f992", func := "quinella/quinellalaw03.PoolShared", spec := "poolShared", unfollowed := true, recurses := true, plainKeys := false, apart := false }
def PoolSharedSaid : Prop := poolSharedRow.holds Tryz.pinned (OpenSpec.ofChange poolSharedSpec)

/-- ITS FALSE NEIGHBOUR: 'it returns false'. Refute it at one input. -/
def poolSharedWrong : ChangeSpec := { name := "poolShared", fn := fun _ => fun
  | [d1, d2] => { results := [.lit (.bool false)], args := [d1, d2] }
  | _ => none }
def PoolSharedWrongFalsely : Prop := poolSharedRow.holds Tryz.pinned (OpenSpec.ofChange poolSharedWrong)

/- THE SECOND FORM. 'bulk': how many values and letters a reading holds, each counted each time it is reached (what is shared counts as often as it is met; a slice's spare places count too). A statement '..UptoSaid' is the law's where the arguments, and the package variables that the reading takes, are together of bulk at most 1048576: NARROWER than '..Said'. Prove '..Said' where nothing that the law and all that it calls make is longer than what came in: it says more and counts as full. Else prove '..UptoSaid'. A law counts once. -/
mutual
def uptoBulk {H : Type} : DataW H → Nat
  | .lit (.string bytes) => bytes.length + 1
  | .lit _ => 1
  | .nil => 1
  | .ptr d => uptoBulk d + 1
  | .slice elems spare => uptoBulkAll elems + uptoBulkAll spare + 1
  | .agg parts => uptoBulkAll parts + 1
  | .iface _ d => uptoBulk d + 1
  | .map entries => uptoBulkEntries entries + 1
  | .held _ => 1
def uptoBulkAll {H : Type} : List (DataW H) → Nat
  | [] => 0
  | d :: r => uptoBulk d + uptoBulkAll r
def uptoBulkEntries {H : Type} : List (Lit × DataW H) → Nat
  | [] => 0
  | x :: r => uptoBulkEntry x + uptoBulkEntries r
def uptoBulkEntry {H : Type} : Lit × DataW H → Nat
  | (.string bytes, d) => bytes.length + uptoBulk d + 1
  | (_, d) => uptoBulk d + 1
 end
def uptoSmall : (H : Type) → List (DataW H) → Bool := fun _ ds => decide (uptoBulkAll ds ≤ 1048576)
def OpenSpec.upto (s : _root_.Go.ChangeSpec) : _root_.Go.OpenSpec := { _root_.Go.OpenSpec.ofChange s with cond := some uptoSmall }

/-- 'quinellalaw03.PoolPays', WHERE WHAT IT READS IS OF BULK AT MOST 1048576: true; the input reads as it did. -/
def poolPaysUptoRow : OpenClaim := { program := "ytbahiemjaomdcaagreat", sum := "1f493d157280e92d67de7accc7ead3ba6f6c020c0594cdf56fe774c1c2f9f992", func := "quinella/quinellalaw03.PoolPays", spec := "poolPays", unfollowed := true, recurses := true, plainKeys := false, apart := false, narrowed := true }
def PoolPaysUptoSaid : Prop := poolPaysUptoRow.holds Tryz.pinned (OpenSpec.upto poolPaysSpec)

/-- 'quinellalaw03.PoolSpreads', WHERE WHAT IT READS IS OF BULK AT MOST 1048576: true; the input reads as it did. -/
def poolSpreadsUptoRow : OpenClaim := { program := "ytbahiemjaomdcaagreat", sum := "1f493d157280e92d67de7accc7ead3ba6f6c020c0594cdf56fe774c1c2f9f992", func := "quinella/quinellalaw03.PoolSpreads", spec := "poolSpreads", unfollowed := true, recurses := true, plainKeys := false, apart := false, narrowed := true }
def PoolSpreadsUptoSaid : Prop := poolSpreadsUptoRow.holds Tryz.pinned (OpenSpec.upto poolSpreadsSpec)

/-- 'quinellalaw03.PoolShared', WHERE WHAT IT READS IS OF BULK AT MOST 1048576: true; the input reads as it did. -/
def poolSharedUptoRow : OpenClaim := { program := "ytbahiemjaomdcaagreat", sum := "1f493d157280e92d67de7accc7ead3ba6f6c020c0594cdf56fe774c1c2f9f992", func := "quinella/quinellalaw03.PoolShared", spec := "poolShared", unfollowed := true, recurses := true, plainKeys := false, apart := false, narrowed := true }
def PoolSharedUptoSaid : Prop := poolSharedUptoRow.holds Tryz.pinned (OpenSpec.upto poolSharedSpec)

end Rows
end Go.Proofs.YtbahiemjaomdcaaGreat
