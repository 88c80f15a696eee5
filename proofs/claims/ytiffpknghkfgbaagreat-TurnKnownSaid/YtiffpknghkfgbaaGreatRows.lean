/-
  No cell of these rows narrows 'for every input' (looked for: loops, veiled, ifaces, maps, wideKeys, modest, calm, conditions, laid).
  DERIVED. THE GIVEN ROWS OF THIS SEAT. 3 by the template 'for every input the law returns true; each argument reads behind the call as it read before'; 0 by the template 'total and deterministic' (their statements: YtiffpknghkfgbaaGreatTotals.lean).
  GIVEN WITH THE SEED: the statements are not yours to turn. If you find one false, say at which input.
  Laid BY PROGRAM, IN A SANDBOX (cutbox-rows.mjs): the forced cells as the released guide's own fill.sh prints them over the translation 39d21a815c47aa3e… (all of the seat's roots in one cut). By AI agents, Wed Nov 11 2026. No macro, syntax, notation, axiom, sorry.
-/
import Derived.Test.YtiffpknghkfgbaaGreatChecked
import GoSem.Claim
import GoSem.ClaimJoined
import GoSem.ClaimMapViews
import Derived.JoinedTies
import Derived.KernelRfl
namespace Go.Proofs.YtiffpknghkfgbaaGreat
/- THE CELL 'sum', in the pinned program and in every row, IS THE sha256 OF THE DUMP (.gsa) THAT YtiffpknghkfgbaaGreatProg.lean LOADS. Nothing in Lean hashes anything: it is a label: what it is worth is what the hold of that sum in a sandbox is worth. -/
noncomputable def Tryz.pinned : Pinned := { name := "ytiffpknghkfgbaagreat", sum := "39d21a815c47aa3e97779e39b77463e659123106e3016c32c77578936b1ee793", checked := Tryz.checked }
namespace Rows
def none {H : Type} : Left H := { results := [], args := [] }

/-- 'quinellalaw01.TurnWaited': WHATEVER THE INPUT: true; the input reads as it did. -/
def turnWaitedSpec : ChangeSpec := { name := "turnWaited", fn := fun _ => fun
  | [d1, d2, d3] => { results := [.lit (.bool true)], args := [d1, d2, d3] }
  | _ => none }
def turnWaitedRow : OpenClaim := { program := "ytiffpknghkfgbaagreat", sum := "39d21a815c47aa3e97779e39b77463e659123106e3016c32c77578936b1ee793", func := "quinella/quinellalaw01.TurnWaited", spec := "turnWaited", unfollowed := true, recurses := true, plainKeys := false, apart := false }
def TurnWaitedSaid : Prop := turnWaitedRow.holds Tryz.pinned (OpenSpec.ofChange turnWaitedSpec)

/-- ITS FALSE NEIGHBOUR: 'it returns false'. Refute it at one input. -/
def turnWaitedWrong : ChangeSpec := { name := "turnWaited", fn := fun _ => fun
  | [d1, d2, d3] => { results := [.lit (.bool false)], args := [d1, d2, d3] }
  | _ => none }
def TurnWaitedWrongFalsely : Prop := turnWaitedRow.holds Tryz.pinned (OpenSpec.ofChange turnWaitedWrong)

/-- 'quinellalaw01.TurnLasted': WHATEVER THE INPUT: true; the input reads as it did. -/
def turnLastedSpec : ChangeSpec := { name := "turnLasted", fn := fun _ => fun
  | [d1, d2, d3, d4] => { results := [.lit (.bool true)], args := [d1, d2, d3, d4] }
  | _ => none }
def turnLastedRow : OpenClaim := { program := "ytiffpknghkfgbaagreat", sum := "39d21a815c47aa3e97779e39b77463e659123106e3016c32c77578936b1ee793", func := "quinella/quinellalaw01.TurnLasted", spec := "turnLasted", unfollowed := true, recurses := true, plainKeys := false, apart := false }
def TurnLastedSaid : Prop := turnLastedRow.holds Tryz.pinned (OpenSpec.ofChange turnLastedSpec)

/-- ITS FALSE NEIGHBOUR: 'it returns false'. Refute it at one input. -/
def turnLastedWrong : ChangeSpec := { name := "turnLasted", fn := fun _ => fun
  | [d1, d2, d3, d4] => { results := [.lit (.bool false)], args := [d1, d2, d3, d4] }
  | _ => none }
def TurnLastedWrongFalsely : Prop := turnLastedRow.holds Tryz.pinned (OpenSpec.ofChange turnLastedWrong)

/-- 'quinellalaw01.TurnKnown': WHATEVER THE INPUT: true; the input reads as it did. -/
def turnKnownSpec : ChangeSpec := { name := "turnKnown", fn := fun _ => fun
  | [] => { results := [.lit (.bool true)], args := [] }
  | _ => none }
def turnKnownRow : OpenClaim := { program := "ytiffpknghkfgbaagreat", sum := "39d21a815c47aa3e97779e39b77463e659123106e3016c32c77578936b1ee793", func := "quinella/quinellalaw01.TurnKnown", spec := "turnKnown", unfollowed := true, recurses := true, plainKeys := false, apart := false }
def TurnKnownSaid : Prop := turnKnownRow.holds Tryz.pinned (OpenSpec.ofChange turnKnownSpec)

/-- ITS FALSE NEIGHBOUR: 'it returns false'. Refute it at one input. -/
def turnKnownWrong : ChangeSpec := { name := "turnKnown", fn := fun _ => fun
  | [] => { results := [.lit (.bool false)], args := [] }
  | _ => none }
def TurnKnownWrongFalsely : Prop := turnKnownRow.holds Tryz.pinned (OpenSpec.ofChange turnKnownWrong)

/- THE SECOND FORM. 'bulk': how many values and letters a reading holds, each counted each time it is reached (what is shared counts as often as it is met; a slice's spare places count too). A statement '..UptoSaid' is the law's where the arguments, and the package variables that the reading takes, are together of bulk at most 1048576: NARROWER than '..Said'. Prove '..Said' where nothing that the law and all that it calls make is longer than what came in: it says more and counts as full. Else prove '..UptoSaid'. A law counts once. -/
mutual
def uptoBulk {H : Type} : DataW H → Nat
  | .lit (.string bytes) => bytes.length + 1
  | .lit _ => 1
  | .nil => 1
  | .ptr d => uptoBulk d + 1
  | .slice elems spare => uptoBulkAll elems + uptoBulkAll spare + 1
  | .agg parts => uptoBulkAll parts + 1
  | .iface _ d => uptoBulk d + 1
  | .map entries => uptoBulkEntries entries + 1
  | .held _ => 1
def uptoBulkAll {H : Type} : List (DataW H) → Nat
  | [] => 0
  | d :: r => uptoBulk d + uptoBulkAll r
def uptoBulkEntries {H : Type} : List (Lit × DataW H) → Nat
  | [] => 0
  | x :: r => uptoBulkEntry x + uptoBulkEntries r
def uptoBulkEntry {H : Type} : Lit × DataW H → Nat
  | (.string bytes, d) => bytes.length + uptoBulk d + 1
  | (_, d) => uptoBulk d + 1
 end
def uptoSmall : (H : Type) → List (DataW H) → Bool := fun _ ds => decide (uptoBulkAll ds ≤ 1048576)
def OpenSpec.upto (s : _root_.Go.ChangeSpec) : _root_.Go.OpenSpec := { _root_.Go.OpenSpec.ofChange s with cond := some uptoSmall }

/-- 'quinellalaw01.TurnWaited', WHERE WHAT IT READS IS OF BULK AT MOST 1048576: true; the input reads as it did. -/
def turnWaitedUptoRow : OpenClaim := { program := "ytiffpknghkfgbaagreat", sum := "39d21a815c47aa3e97779e39b77463e659123106e3016c32c77578936b1ee793", func := "quinella/quinellalaw01.TurnWaited", spec := "turnWaited", unfollowed := true, recurses := true, plainKeys := false, apart := false, narrowed := true }
def TurnWaitedUptoSaid : Prop := turnWaitedUptoRow.holds Tryz.pinned (OpenSpec.upto turnWaitedSpec)

/-- 'quinellalaw01.TurnLasted', WHERE WHAT IT READS IS OF BULK AT MOST 1048576: true; the input reads as it did. -/
def turnLastedUptoRow : OpenClaim := { program := "ytiffpknghkfgbaagreat", sum := "39d21a815c47aa3e97779e39b77463e659123106e3016c32c77578936b1ee793", func := "quinella/quinellalaw01.TurnLasted", spec := "turnLasted", unfollowed := true, recurses := true, plainKeys := false, apart := false, narrowed := true }
def TurnLastedUptoSaid : Prop := turnLastedUptoRow.holds Tryz.pinned (OpenSpec.upto turnLastedSpec)

/-- 'quinellalaw01.TurnKnown', WHERE WHAT IT READS IS OF BULK AT MOST 1048576: true; the input reads as it did. -/
def turnKnownUptoRow : OpenClaim := { program := "ytiffpknghkfgbaagreat", sum := "39d21a815c47aa3e97779e39b77463e659123106e3016c32c77578936b1ee793", func := "quinella/quinellalaw01.TurnKnown", spec := "turnKnown", unfollowed := true, recurses := true, plainKeys := false, apart := false, narrowed := true }
def TurnKnownUptoSaid : Prop := turnKnownUptoRow.holds Tryz.pinned (OpenSpec.upto turnKnownSpec)

end Rows
end Go.Proofs.YtiffpknghkfgbaaGreat
