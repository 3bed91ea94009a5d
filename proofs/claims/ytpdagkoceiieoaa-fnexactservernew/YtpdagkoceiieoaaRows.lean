/-
  No cell of these rows narrows 'for every input' (looked for: loops, veiled, ifaces, maps, wideKeys, modest, calm, conditions, laid).
  DERIVED. THE GIVEN ROWS OF THIS SEAT. 6 by the template 'for every input the law returns true; each argument reads behind the call as it read before'; 0 by the template 'total and deterministic' (their statements: YtpdagkoceiieoaaTotals.lean).
  GIVEN WITH THE SEED: the statements are not yours to turn. If you find one false, say at which input.
  Laid BY PROGRAM, IN A SANDBOX (cutbox-rows.mjs): the forced cells as the released guide's own fill.sh prints them over the translation 5bb10c6c38202b51… (all of the seat's roots in one cut). By AI agents, Wed Nov 11 2026. No macro, syntax, notation, axiom, sorry.
-/
import Derived.Test.YtpdagkoceiieoaaChecked
import GoSem.Claim
import GoSem.ClaimJoined
import GoSem.ClaimMapViews
import Derived.JoinedTies
import Derived.KernelRfl
namespace Go.Proofs.Ytpdagkoceiieoaa
/- THE CELL 'sum', in the pinned program and in every row, IS THE sha256 OF THE DUMP (.gsa) THAT YtpdagkoceiieoaaProg.lean LOADS. Nothing in Lean hashes anything: it is a label: what it is worth is what the hold of that sum in a sandbox is worth. -/
noncomputable def Try.pinned : Pinned := { name := "ytpdagkoceiieoaa", sum := "5bb10c6c38202b5110304b147e9ada5175f8bb9d05e0ab7785767d245a981974", checked := Try.checked }
namespace Rows
def none {H : Type} : Left H := { results := [], args := [] }

/-- 'laws.FnLearned': WHATEVER THE INPUT: true; the input reads as it did. -/
def fnLearnedSpec : ChangeSpec := { name := "fnLearned", fn := fun _ => fun
  | [d] => { results := [.lit (.bool true)], args := [d] }
  | _ => none }
def fnLearnedRow : OpenClaim := { program := "ytpdagkoceiieoaa", sum := "5bb10c6c38202b5110304b147e9ada5175f8bb9d05e0ab7785767d245a981974", func := "loop.example/g00388/laws.FnLearned", spec := "fnLearned", unfollowed := true, recurses := true, plainKeys := false, apart := false }
def FnLearnedSaid : Prop := fnLearnedRow.holds Try.pinned (OpenSpec.ofChange fnLearnedSpec)

/-- ITS FALSE NEIGHBOUR: 'it returns false'. Refute it at one input. -/
def fnLearnedWrong : ChangeSpec := { name := "fnLearned", fn := fun _ => fun
  | [d] => { results := [.lit (.bool false)], args := [d] }
  | _ => none }
def FnLearnedWrongFalsely : Prop := fnLearnedRow.holds Try.pinned (OpenSpec.ofChange fnLearnedWrong)

/-- 'laws.FnExactServerNew': WHATEVER THE INPUT: true; the input reads as it did. -/
def fnExactServerNewSpec : ChangeSpec := { name := "fnExactServerNew", fn := fun _ => fun
  | [] => { results := [.lit (.bool true)], args := [] }
  | _ => none }
def fnExactServerNewRow : OpenClaim := { program := "ytpdagkoceiieoaa", sum := "5bb10c6c38202b5110304b147e9ada5175f8bb9d05e0ab7785767d245a981974", func := "loop.example/g00388/laws.FnExactServerNew", spec := "fnExactServerNew", plainKeys := false, apart := false }
def FnExactServerNewSaid : Prop := fnExactServerNewRow.holds Try.pinned (OpenSpec.ofChange fnExactServerNewSpec)

/-- ITS FALSE NEIGHBOUR: 'it returns false'. Refute it at one input. -/
def fnExactServerNewWrong : ChangeSpec := { name := "fnExactServerNew", fn := fun _ => fun
  | [] => { results := [.lit (.bool false)], args := [] }
  | _ => none }
def FnExactServerNewWrongFalsely : Prop := fnExactServerNewRow.holds Try.pinned (OpenSpec.ofChange fnExactServerNewWrong)

/-- 'laws.FnExactKeysFor': WHATEVER THE INPUT: true; the input reads as it did. -/
def fnExactKeysForSpec : ChangeSpec := { name := "fnExactKeysFor", fn := fun _ => fun
  | [d1, d2] => { results := [.lit (.bool true)], args := [d1, d2] }
  | _ => none }
def fnExactKeysForRow : OpenClaim := { program := "ytpdagkoceiieoaa", sum := "5bb10c6c38202b5110304b147e9ada5175f8bb9d05e0ab7785767d245a981974", func := "loop.example/g00388/laws.FnExactKeysFor", spec := "fnExactKeysFor", unfollowed := true, recurses := true, plainKeys := false, apart := false }
def FnExactKeysForSaid : Prop := fnExactKeysForRow.holds Try.pinned (OpenSpec.ofChange fnExactKeysForSpec)

/-- ITS FALSE NEIGHBOUR: 'it returns false'. Refute it at one input. -/
def fnExactKeysForWrong : ChangeSpec := { name := "fnExactKeysFor", fn := fun _ => fun
  | [d1, d2] => { results := [.lit (.bool false)], args := [d1, d2] }
  | _ => none }
def FnExactKeysForWrongFalsely : Prop := fnExactKeysForRow.holds Try.pinned (OpenSpec.ofChange fnExactKeysForWrong)

/-- 'laws.FnExactWindowOk': WHATEVER THE INPUT: true; the input reads as it did. -/
def fnExactWindowOkSpec : ChangeSpec := { name := "fnExactWindowOk", fn := fun _ => fun
  | [d] => { results := [.lit (.bool true)], args := [d] }
  | _ => none }
def fnExactWindowOkRow : OpenClaim := { program := "ytpdagkoceiieoaa", sum := "5bb10c6c38202b5110304b147e9ada5175f8bb9d05e0ab7785767d245a981974", func := "loop.example/g00388/laws.FnExactWindowOk", spec := "fnExactWindowOk", plainKeys := false, apart := false }
def FnExactWindowOkSaid : Prop := fnExactWindowOkRow.holds Try.pinned (OpenSpec.ofChange fnExactWindowOkSpec)

/-- ITS FALSE NEIGHBOUR: 'it returns false'. Refute it at one input. -/
def fnExactWindowOkWrong : ChangeSpec := { name := "fnExactWindowOk", fn := fun _ => fun
  | [d] => { results := [.lit (.bool false)], args := [d] }
  | _ => none }
def FnExactWindowOkWrongFalsely : Prop := fnExactWindowOkRow.holds Try.pinned (OpenSpec.ofChange fnExactWindowOkWrong)

/-- 'laws.FnExactAccepted': WHATEVER THE INPUT: true; the input reads as it did. -/
def fnExactAcceptedSpec : ChangeSpec := { name := "fnExactAccepted", fn := fun _ => fun
  | [d1, d2] => { results := [.lit (.bool true)], args := [d1, d2] }
  | _ => none }
def fnExactAcceptedRow : OpenClaim := { program := "ytpdagkoceiieoaa", sum := "5bb10c6c38202b5110304b147e9ada5175f8bb9d05e0ab7785767d245a981974", func := "loop.example/g00388/laws.FnExactAccepted", spec := "fnExactAccepted", plainKeys := false, apart := false }
def FnExactAcceptedSaid : Prop := fnExactAcceptedRow.holds Try.pinned (OpenSpec.ofChange fnExactAcceptedSpec)

/-- ITS FALSE NEIGHBOUR: 'it returns false'. Refute it at one input. -/
def fnExactAcceptedWrong : ChangeSpec := { name := "fnExactAccepted", fn := fun _ => fun
  | [d1, d2] => { results := [.lit (.bool false)], args := [d1, d2] }
  | _ => none }
def FnExactAcceptedWrongFalsely : Prop := fnExactAcceptedRow.holds Try.pinned (OpenSpec.ofChange fnExactAcceptedWrong)

/-- 'laws.FnExactAcceptedAll': WHATEVER THE INPUT: true; the input reads as it did. -/
def fnExactAcceptedAllSpec : ChangeSpec := { name := "fnExactAcceptedAll", fn := fun _ => fun
  | [d1, d2] => { results := [.lit (.bool true)], args := [d1, d2] }
  | _ => none }
def fnExactAcceptedAllRow : OpenClaim := { program := "ytpdagkoceiieoaa", sum := "5bb10c6c38202b5110304b147e9ada5175f8bb9d05e0ab7785767d245a981974", func := "loop.example/g00388/laws.FnExactAcceptedAll", spec := "fnExactAcceptedAll", plainKeys := false, apart := false }
def FnExactAcceptedAllSaid : Prop := fnExactAcceptedAllRow.holds Try.pinned (OpenSpec.ofChange fnExactAcceptedAllSpec)

/-- ITS FALSE NEIGHBOUR: 'it returns false'. Refute it at one input. -/
def fnExactAcceptedAllWrong : ChangeSpec := { name := "fnExactAcceptedAll", fn := fun _ => fun
  | [d1, d2] => { results := [.lit (.bool false)], args := [d1, d2] }
  | _ => none }
def FnExactAcceptedAllWrongFalsely : Prop := fnExactAcceptedAllRow.holds Try.pinned (OpenSpec.ofChange fnExactAcceptedAllWrong)

/- THE SECOND FORM. 'bulk': how many values and letters a reading holds, each counted each time it is reached (what is shared counts as often as it is met; a slice's spare places count too). A statement '..UptoSaid' is the law's where the arguments, and the package variables that the reading takes, are together of bulk at most 1048576: NARROWER than '..Said'. Prove '..Said' where nothing that the law and all that it calls make is longer than what came in: it says more and counts as full. Else prove '..UptoSaid'. A law counts once. -/
mutual
def uptoBulk {H : Type} : DataW H → Nat
  | .lit (.string bytes) => bytes.length + 1
  | .lit _ => 1
  | .nil => 1
  | .ptr d => uptoBulk d + 1
  | .slice elems spare => uptoBulkAll elems + uptoBulkAll spare + 1
  | .agg parts => uptoBulkAll parts + 1
  | .iface _ d => uptoBulk d + 1
  | .map entries => uptoBulkEntries entries + 1
  | .held _ => 1
def uptoBulkAll {H : Type} : List (DataW H) → Nat
  | [] => 0
  | d :: r => uptoBulk d + uptoBulkAll r
def uptoBulkEntries {H : Type} : List (Lit × DataW H) → Nat
  | [] => 0
  | x :: r => uptoBulkEntry x + uptoBulkEntries r
def uptoBulkEntry {H : Type} : Lit × DataW H → Nat
  | (.string bytes, d) => bytes.length + uptoBulk d + 1
  | (_, d) => uptoBulk d + 1
 end
def uptoSmall : (H : Type) → List (DataW H) → Bool := fun _ ds => decide (uptoBulkAll ds ≤ 1048576)
def OpenSpec.upto (s : _root_.Go.ChangeSpec) : _root_.Go.OpenSpec := { _root_.Go.OpenSpec.ofChange s with cond := some uptoSmall }

/-- 'laws.FnLearned', WHERE WHAT IT READS IS OF BULK AT MOST 1048576: true; the input reads as it did. -/
def fnLearnedUptoRow : OpenClaim := { program := "ytpdagkoceiieoaa", sum := "5bb10c6c38202b5110304b147e9ada5175f8bb9d05e0ab7785767d245a981974", func := "loop.example/g00388/laws.FnLearned", spec := "fnLearned", unfollowed := true, recurses := true, plainKeys := false, apart := false, narrowed := true }
def FnLearnedUptoSaid : Prop := fnLearnedUptoRow.holds Try.pinned (OpenSpec.upto fnLearnedSpec)

/-- 'laws.FnExactServerNew', WHERE WHAT IT READS IS OF BULK AT MOST 1048576: true; the input reads as it did. -/
def fnExactServerNewUptoRow : OpenClaim := { program := "ytpdagkoceiieoaa", sum := "5bb10c6c38202b5110304b147e9ada5175f8bb9d05e0ab7785767d245a981974", func := "loop.example/g00388/laws.FnExactServerNew", spec := "fnExactServerNew", plainKeys := false, apart := false, narrowed := true }
def FnExactServerNewUptoSaid : Prop := fnExactServerNewUptoRow.holds Try.pinned (OpenSpec.upto fnExactServerNewSpec)

/-- 'laws.FnExactKeysFor', WHERE WHAT IT READS IS OF BULK AT MOST 1048576: true; the input reads as it did. -/
def fnExactKeysForUptoRow : OpenClaim := { program := "ytpdagkoceiieoaa", sum := "5bb10c6c38202b5110304b147e9ada5175f8bb9d05e0ab7785767d245a981974", func := "loop.example/g00388/laws.FnExactKeysFor", spec := "fnExactKeysFor", unfollowed := true, recurses := true, plainKeys := false, apart := false, narrowed := true }
def FnExactKeysForUptoSaid : Prop := fnExactKeysForUptoRow.holds Try.pinned (OpenSpec.upto fnExactKeysForSpec)

/-- 'laws.FnExactWindowOk', WHERE WHAT IT READS IS OF BULK AT MOST 1048576: true; the input reads as it did. -/
def fnExactWindowOkUptoRow : OpenClaim := { program := "ytpdagkoceiieoaa", sum := "5bb10c6c38202b5110304b147e9ada5175f8bb9d05e0ab7785767d245a981974", func := "loop.example/g00388/laws.FnExactWindowOk", spec := "fnExactWindowOk", plainKeys := false, apart := false, narrowed := true }
def FnExactWindowOkUptoSaid : Prop := fnExactWindowOkUptoRow.holds Try.pinned (OpenSpec.upto fnExactWindowOkSpec)

/-- 'laws.FnExactAccepted', WHERE WHAT IT READS IS OF BULK AT MOST 1048576: true; the input reads as it did. -/
def fnExactAcceptedUptoRow : OpenClaim := { program := "ytpdagkoceiieoaa", sum := "5bb10c6c38202b5110304b147e9ada5175f8bb9d05e0ab7785767d245a981974", func := "loop.example/g00388/laws.FnExactAccepted", spec := "fnExactAccepted", plainKeys := false, apart := false, narrowed := true }
def FnExactAcceptedUptoSaid : Prop := fnExactAcceptedUptoRow.holds Try.pinned (OpenSpec.upto fnExactAcceptedSpec)

/-- 'laws.FnExactAcceptedAll', WHERE WHAT IT READS IS OF BULK AT MOST 1048576: true; the input reads as it did. -/
def fnExactAcceptedAllUptoRow : OpenClaim := { program := "ytpdagkoceiieoaa", sum := "5bb10c6c38202b5110304b147e9ada5175f8bb9d05e0ab7785767d245a981974", func := "loop.example/g00388/laws.FnExactAcceptedAll", spec := "fnExactAcceptedAll", plainKeys := false, apart := false, narrowed := true }
def FnExactAcceptedAllUptoSaid : Prop := fnExactAcceptedAllUptoRow.holds Try.pinned (OpenSpec.upto fnExactAcceptedAllSpec)

end Rows
end Go.Proofs.Ytpdagkoceiieoaa
