/-
  No cell of these rows narrows 'for every input' (looked for: loops, veiled, ifaces, maps, wideKeys, modest, calm, conditions, laid).
  DERIVED. THE GIVEN ROWS OF THIS SEAT. 3 by the template 'for every input the law returns true; each argument reads behind the call as it read before'; 0 by the template 'total and deterministic' (their statements: YthpcjhncnnbhoaaGreatTotals.lean).
  GIVEN WITH THE SEED: the statements are not yours to turn. If you find one false, say at which input.
  Laid BY PROGRAM, IN A SANDBOX (cutbox-rows.mjs): the forced cells as the released guide's own fill.sh prints them over the translation f2e645553925a1ab… (all of the seat's roots in one cut). By AI agents, Wed Nov 11 2026. No macro, syntax, notation, axiom, sorry.
-/
import Derived.Test.YthpcjhncnnbhoaaGreatChecked
import GoSem.Claim
import GoSem.ClaimJoined
import GoSem.ClaimMapViews
import Derived.JoinedTies
import Derived.KernelRfl
namespace Go.Proofs.YthpcjhncnnbhoaaGreat
/- THE CELL 'sum', in the pinned program and in every row, IS THE sha256 OF THE DUMP (.gsa) THAT YthpcjhncnnbhoaaGreatProg.lean LOADS. Nothing in Lean hashes anything: it is a label: what it is worth is what the hold of that sum in a sandbox is worth. -/
noncomputable def Tryz.pinned : Pinned := { name := "ythpcjhncnnbhoaagreat", sum := "f2e645553925a1ab7a7b1d7dd2cd546036ade3ba33448d84f846dca0bf4c735d", checked := Tryz.checked }
namespace Rows
def none {H : Type} : Left H := { results := [], args := [] }

/-- 'quinellalaw01.TurnEither': WHATEVER THE INPUT: true; the input reads as it did. -/
def turnEitherSpec : ChangeSpec := { name := "turnEither", fn := fun _ => fun
  | [d1, d2, d3] => { results := [.lit (.bool true)], args := [d1, d2, d3] }
  | _ => none }
def turnEitherRow : OpenClaim := { program := "ythpcjhncnnbhoaagreat", sum := "f2e645553925a1ab7a7b1d7dd2cd546036ade3ba33448d84f846dca0bf4c735d", func := "quinella/quinellalaw01.TurnEither", spec := "turnEither", unfollowed := true, recurses := true, plainKeys := false, apart := false }
def TurnEitherSaid : Prop := turnEitherRow.holds Tryz.pinned (OpenSpec.ofChange turnEitherSpec)

/-- ITS FALSE NEIGHBOUR: 'it returns false'. Refute it at one input. -/
def turnEitherWrong : ChangeSpec := { name := "turnEither", fn := fun _ => fun
  | [d1, d2, d3] => { results := [.lit (.bool false)], args := [d1, d2, d3] }
  | _ => none }
def TurnEitherWrongFalsely : Prop := turnEitherRow.holds Tryz.pinned (OpenSpec.ofChange turnEitherWrong)

/-- 'quinellalaw01.TurnKept': WHATEVER THE INPUT: true; the input reads as it did. -/
def turnKeptSpec : ChangeSpec := { name := "turnKept", fn := fun _ => fun
  | [d1, d2, d3, d4, d5] => { results := [.lit (.bool true)], args := [d1, d2, d3, d4, d5] }
  | _ => none }
def turnKeptRow : OpenClaim := { program := "ythpcjhncnnbhoaagreat", sum := "f2e645553925a1ab7a7b1d7dd2cd546036ade3ba33448d84f846dca0bf4c735d", func := "quinella/quinellalaw01.TurnKept", spec := "turnKept", unfollowed := true, recurses := true, plainKeys := false, apart := false }
def TurnKeptSaid : Prop := turnKeptRow.holds Tryz.pinned (OpenSpec.ofChange turnKeptSpec)

/-- ITS FALSE NEIGHBOUR: 'it returns false'. Refute it at one input. -/
def turnKeptWrong : ChangeSpec := { name := "turnKept", fn := fun _ => fun
  | [d1, d2, d3, d4, d5] => { results := [.lit (.bool false)], args := [d1, d2, d3, d4, d5] }
  | _ => none }
def TurnKeptWrongFalsely : Prop := turnKeptRow.holds Tryz.pinned (OpenSpec.ofChange turnKeptWrong)

/-- 'quinellalaw01.TurnLasted': WHATEVER THE INPUT: true; the input reads as it did. -/
def turnLastedSpec : ChangeSpec := { name := "turnLasted", fn := fun _ => fun
  | [d1, d2, d3, d4] => { results := [.lit (.bool true)], args := [d1, d2, d3, d4] }
  | _ => none }
def turnLastedRow : OpenClaim := { program := "ythpcjhncnnbhoaagreat", sum := "f2e645553925a1ab7a7b1d7dd2cd546036ade3ba33448d84f846dca0bf4c735d", func := "quinella/quinellalaw01.TurnLasted", spec := "turnLasted", unfollowed := true, recurses := true, plainKeys := false, apart := false }
def TurnLastedSaid : Prop := turnLastedRow.holds Tryz.pinned (OpenSpec.ofChange turnLastedSpec)

/-- ITS FALSE NEIGHBOUR: 'it returns false'. Refute it at one input. -/
def turnLastedWrong : ChangeSpec := { name := "turnLasted", fn := fun _ => fun
  | [d1, d2, d3, d4] => { results := [.lit (.bool false)], args := [d1, d2, d3, d4] }
  | _ => none }
def TurnLastedWrongFalsely : Prop := turnLastedRow.holds Tryz.pinned (OpenSpec.ofChange turnLastedWrong)

/- THE SECOND FORM. 'bulk': how many values and letters a reading holds, each counted each time it is reached (what is shared counts as often as it is met; a slice's spare places count too). A statement '..UptoSaid' is the law's where the arguments, and the package variables that the reading takes, are together of bulk at most 1048576: NARROWER than '..Said'. Prove '..Said' where nothing that the law and all that it calls make is longer than what came in: it says more and counts as full. Else prove '..UptoSaid'. A law counts once. -/
mutual
def uptoBulk {H : Type} : DataW H → Nat
  | .lit (.string bytes) => bytes.length + 1
  | .lit _ => 1
  | .nil => 1
  | .ptr d => uptoBulk d + 1
  | .slice elems spare => uptoBulkAll elems + uptoBulkAll spare + 1
  | .agg parts => uptoBulkAll parts + 1
  | .iface _ d => uptoBulk d + 1
  | .map entries => uptoBulkEntries entries + 1
  | .held _ => 1
def uptoBulkAll {H : Type} : List (DataW H) → Nat
  | [] => 0
  | d :: r => uptoBulk d + uptoBulkAll r
def uptoBulkEntries {H : Type} : List (Lit × DataW H) → Nat
  | [] => 0
  | x :: r => uptoBulkEntry x + uptoBulkEntries r
def uptoBulkEntry {H : Type} : Lit × DataW H → Nat
  | (.string bytes, d) => bytes.length + uptoBulk d + 1
  | (_, d) => uptoBulk d + 1
 end
def uptoSmall : (H : Type) → List (DataW H) → Bool := fun _ ds => decide (uptoBulkAll ds ≤ 1048576)
def OpenSpec.upto (s : _root_.Go.ChangeSpec) : _root_.Go.OpenSpec := { _root_.Go.OpenSpec.ofChange s with cond := some uptoSmall }

/-- 'quinellalaw01.TurnEither', WHERE WHAT IT READS IS OF BULK AT MOST 1048576: true; the input reads as it did. -/
def turnEitherUptoRow : OpenClaim := { program := "ythpcjhncnnbhoaagreat", sum := "f2e645553925a1ab7a7b1d7dd2cd546036ade3ba33448d84f846dca0bf4c735d", func := "quinella/quinellalaw01.TurnEither", spec := "turnEither", unfollowed := true, recurses := true, plainKeys := false, apart := false, narrowed := true }
def TurnEitherUptoSaid : Prop := turnEitherUptoRow.holds Tryz.pinned (OpenSpec.upto turnEitherSpec)

/-- 'quinellalaw01.TurnKept', WHERE WHAT IT READS IS OF BULK AT MOST 1048576: true; the input reads as it did. -/
def turnKeptUptoRow : OpenClaim := { program := "ythpcjhncnnbhoaagreat", sum := "f2e645553925a1ab7a7b1d7dd2cd546036ade3ba33448d84f846dca0bf4c735d", func := "quinella/quinellalaw01.TurnKept", spec := "turnKept", unfollowed := true, recurses := true, plainKeys := false, apart := false, narrowed := true }
def TurnKeptUptoSaid : Prop := turnKeptUptoRow.holds Tryz.pinned (OpenSpec.upto turnKeptSpec)

/-- 'quinellalaw01.TurnLasted', WHERE WHAT IT READS IS OF BULK AT MOST 1048576: true; the input reads as it did. -/
def turnLastedUptoRow : OpenClaim := { program := "ythpcjhncnnbhoaagreat", sum := "f2e645553925a1ab7a7b1d7dd2cd546036ade3ba33448d84f846dca0bf4c735d", func := "quinella/quinellalaw01.TurnLasted", spec := "turnLasted", unfollowed := true, recurses := true, plainKeys := false, apart := false, narrowed := true }
def TurnLastedUptoSaid : Prop := turnLastedUptoRow.holds Tryz.pinned (OpenSpec.upto turnLastedSpec)

end Rows
end Go.Proofs.YthpcjhncnnbhoaaGreat
