/-
  No cell of these rows narrows 'for every input' (looked for: loops, veiled, ifaces, maps, wideKeys, modest, calm, conditions, laid).
  DERIVED. THE GIVEN ROWS OF THIS SEAT. 6 by the template 'for every input the law returns true; each argument reads behind the call as it read before'; 0 by the template 'total and deterministic' (their statements: YtddhfcemkdmadaeTotals.lean).
  GIVEN WITH THE SEED: the statements are not yours to turn. If you find one false, say at which input.
  Laid BY PROGRAM, IN A SANDBOX (cutbox-rows.mjs): the forced cells as the released guide's own fill.sh prints them over the translation f0a17b1e6d0f4bb6… (all of the seat's roots in one cut). By AI agents, Wed Nov 11 2026. No macro, syntax, notation, axiom, sorry.
-/
import Derived.Test.YtddhfcemkdmadaeChecked
import GoSem.Claim
import GoSem.ClaimJoined
import GoSem.ClaimMapViews
import Derived.JoinedTies
import Derived.KernelRfl
namespace Go.Proofs.Ytddhfcemkdmadae
/- THE CELL 'sum', in the pinned program and in every row, IS THE sha256 OF THE DUMP (.gsa) THAT YtddhfcemkdmadaeProg.lean LOADS. Nothing in Lean hashes anything: it is a label: what it is worth is what the hold of that sum in a sandbox is worth. -/
noncomputable def Try.pinned : Pinned := { name := "ytddhfcemkdmadae", sum := "f0a17b1e6d0f4bb698308b57e894f6f5f3afc51ac62bdb1a622b9c9d6103e59a", checked := Try.checked }
namespace Rows
def none {H : Type} : Left H := { results := [], args := [] }

/-- 'laws.FnExactKidsOf': WHATEVER THE INPUT: true; the input reads as it did. -/
def fnExactKidsOfSpec : ChangeSpec := { name := "fnExactKidsOf", fn := fun _ => fun
  | [d] => { results := [.lit (.bool true)], args := [d] }
  | _ => none }
def fnExactKidsOfRow : OpenClaim := { program := "ytddhfcemkdmadae", sum := "f0a17b1e6d0f4bb698308b57e894f6f5f3afc51ac62bdb1a622b9c9d6103e59a", func := "loop.example/g00388/laws.FnExactKidsOf", spec := "fnExactKidsOf", plainKeys := false, apart := false }
def FnExactKidsOfSaid : Prop := fnExactKidsOfRow.holds Try.pinned (OpenSpec.ofChange fnExactKidsOfSpec)

/-- ITS FALSE NEIGHBOUR: 'it returns false'. Refute it at one input. -/
def fnExactKidsOfWrong : ChangeSpec := { name := "fnExactKidsOf", fn := fun _ => fun
  | [d] => { results := [.lit (.bool false)], args := [d] }
  | _ => none }
def FnExactKidsOfWrongFalsely : Prop := fnExactKidsOfRow.holds Try.pinned (OpenSpec.ofChange fnExactKidsOfWrong)

/-- 'laws.FnExactLeavesOf': WHATEVER THE INPUT: true; the input reads as it did. -/
def fnExactLeavesOfSpec : ChangeSpec := { name := "fnExactLeavesOf", fn := fun _ => fun
  | [d] => { results := [.lit (.bool true)], args := [d] }
  | _ => none }
def fnExactLeavesOfRow : OpenClaim := { program := "ytddhfcemkdmadae", sum := "f0a17b1e6d0f4bb698308b57e894f6f5f3afc51ac62bdb1a622b9c9d6103e59a", func := "loop.example/g00388/laws.FnExactLeavesOf", spec := "fnExactLeavesOf", unfollowed := true, recurses := true, plainKeys := false, apart := false }
def FnExactLeavesOfSaid : Prop := fnExactLeavesOfRow.holds Try.pinned (OpenSpec.ofChange fnExactLeavesOfSpec)

/-- ITS FALSE NEIGHBOUR: 'it returns false'. Refute it at one input. -/
def fnExactLeavesOfWrong : ChangeSpec := { name := "fnExactLeavesOf", fn := fun _ => fun
  | [d] => { results := [.lit (.bool false)], args := [d] }
  | _ => none }
def FnExactLeavesOfWrongFalsely : Prop := fnExactLeavesOfRow.holds Try.pinned (OpenSpec.ofChange fnExactLeavesOfWrong)

/-- 'laws.FnExactKeyAhead': WHATEVER THE INPUT: true; the input reads as it did. -/
def fnExactKeyAheadSpec : ChangeSpec := { name := "fnExactKeyAhead", fn := fun _ => fun
  | [d1, d2] => { results := [.lit (.bool true)], args := [d1, d2] }
  | _ => none }
def fnExactKeyAheadRow : OpenClaim := { program := "ytddhfcemkdmadae", sum := "f0a17b1e6d0f4bb698308b57e894f6f5f3afc51ac62bdb1a622b9c9d6103e59a", func := "loop.example/g00388/laws.FnExactKeyAhead", spec := "fnExactKeyAhead", plainKeys := false, apart := false }
def FnExactKeyAheadSaid : Prop := fnExactKeyAheadRow.holds Try.pinned (OpenSpec.ofChange fnExactKeyAheadSpec)

/-- ITS FALSE NEIGHBOUR: 'it returns false'. Refute it at one input. -/
def fnExactKeyAheadWrong : ChangeSpec := { name := "fnExactKeyAhead", fn := fun _ => fun
  | [d1, d2] => { results := [.lit (.bool false)], args := [d1, d2] }
  | _ => none }
def FnExactKeyAheadWrongFalsely : Prop := fnExactKeyAheadRow.holds Try.pinned (OpenSpec.ofChange fnExactKeyAheadWrong)

/-- 'laws.FnExactKnownOk': WHATEVER THE INPUT: true; the input reads as it did. -/
def fnExactKnownOkSpec : ChangeSpec := { name := "fnExactKnownOk", fn := fun _ => fun
  | [d] => { results := [.lit (.bool true)], args := [d] }
  | _ => none }
def fnExactKnownOkRow : OpenClaim := { program := "ytddhfcemkdmadae", sum := "f0a17b1e6d0f4bb698308b57e894f6f5f3afc51ac62bdb1a622b9c9d6103e59a", func := "loop.example/g00388/laws.FnExactKnownOk", spec := "fnExactKnownOk", plainKeys := false, apart := false }
def FnExactKnownOkSaid : Prop := fnExactKnownOkRow.holds Try.pinned (OpenSpec.ofChange fnExactKnownOkSpec)

/-- ITS FALSE NEIGHBOUR: 'it returns false'. Refute it at one input. -/
def fnExactKnownOkWrong : ChangeSpec := { name := "fnExactKnownOk", fn := fun _ => fun
  | [d] => { results := [.lit (.bool false)], args := [d] }
  | _ => none }
def FnExactKnownOkWrongFalsely : Prop := fnExactKnownOkRow.holds Try.pinned (OpenSpec.ofChange fnExactKnownOkWrong)

/-- 'laws.FnExactWrapsOk': WHATEVER THE INPUT: true; the input reads as it did. -/
def fnExactWrapsOkSpec : ChangeSpec := { name := "fnExactWrapsOk", fn := fun _ => fun
  | [d] => { results := [.lit (.bool true)], args := [d] }
  | _ => none }
def fnExactWrapsOkRow : OpenClaim := { program := "ytddhfcemkdmadae", sum := "f0a17b1e6d0f4bb698308b57e894f6f5f3afc51ac62bdb1a622b9c9d6103e59a", func := "loop.example/g00388/laws.FnExactWrapsOk", spec := "fnExactWrapsOk", plainKeys := false, apart := false }
def FnExactWrapsOkSaid : Prop := fnExactWrapsOkRow.holds Try.pinned (OpenSpec.ofChange fnExactWrapsOkSpec)

/-- ITS FALSE NEIGHBOUR: 'it returns false'. Refute it at one input. -/
def fnExactWrapsOkWrong : ChangeSpec := { name := "fnExactWrapsOk", fn := fun _ => fun
  | [d] => { results := [.lit (.bool false)], args := [d] }
  | _ => none }
def FnExactWrapsOkWrongFalsely : Prop := fnExactWrapsOkRow.holds Try.pinned (OpenSpec.ofChange fnExactWrapsOkWrong)

/-- 'laws.FnExactLearned': WHATEVER THE INPUT: true; the input reads as it did. -/
def fnExactLearnedSpec : ChangeSpec := { name := "fnExactLearned", fn := fun _ => fun
  | [d1, d2] => { results := [.lit (.bool true)], args := [d1, d2] }
  | _ => none }
def fnExactLearnedRow : OpenClaim := { program := "ytddhfcemkdmadae", sum := "f0a17b1e6d0f4bb698308b57e894f6f5f3afc51ac62bdb1a622b9c9d6103e59a", func := "loop.example/g00388/laws.FnExactLearned", spec := "fnExactLearned", unfollowed := true, recurses := true, plainKeys := false, apart := false }
def FnExactLearnedSaid : Prop := fnExactLearnedRow.holds Try.pinned (OpenSpec.ofChange fnExactLearnedSpec)

/-- ITS FALSE NEIGHBOUR: 'it returns false'. Refute it at one input. -/
def fnExactLearnedWrong : ChangeSpec := { name := "fnExactLearned", fn := fun _ => fun
  | [d1, d2] => { results := [.lit (.bool false)], args := [d1, d2] }
  | _ => none }
def FnExactLearnedWrongFalsely : Prop := fnExactLearnedRow.holds Try.pinned (OpenSpec.ofChange fnExactLearnedWrong)

/- THE SECOND FORM. 'bulk': how many values and letters a reading holds, each counted each time it is reached (what is shared counts as often as it is met; a slice's spare places count too). A statement '..UptoSaid' is the law's where the arguments, and the package variables that the reading takes, are together of bulk at most 1048576: NARROWER than '..Said'. Prove '..Said' where nothing that the law and all that it calls make is longer than what came in: it says more and counts as full. Else prove '..UptoSaid'. A law counts once. -/
mutual
def uptoBulk {H : Type} : DataW H → Nat
  | .lit (.string bytes) => bytes.length + 1
  | .lit _ => 1
  | .nil => 1
  | .ptr d => uptoBulk d + 1
  | .slice elems spare => uptoBulkAll elems + uptoBulkAll spare + 1
  | .agg parts => uptoBulkAll parts + 1
  | .iface _ d => uptoBulk d + 1
  | .map entries => uptoBulkEntries entries + 1
  | .held _ => 1
def uptoBulkAll {H : Type} : List (DataW H) → Nat
  | [] => 0
  | d :: r => uptoBulk d + uptoBulkAll r
def uptoBulkEntries {H : Type} : List (Lit × DataW H) → Nat
  | [] => 0
  | x :: r => uptoBulkEntry x + uptoBulkEntries r
def uptoBulkEntry {H : Type} : Lit × DataW H → Nat
  | (.string bytes, d) => bytes.length + uptoBulk d + 1
  | (_, d) => uptoBulk d + 1
 end
def uptoSmall : (H : Type) → List (DataW H) → Bool := fun _ ds => decide (uptoBulkAll ds ≤ 1048576)
def OpenSpec.upto (s : _root_.Go.ChangeSpec) : _root_.Go.OpenSpec := { _root_.Go.OpenSpec.ofChange s with cond := some uptoSmall }

/-- 'laws.FnExactKidsOf', WHERE WHAT IT READS IS OF BULK AT MOST 1048576: true; the input reads as it did. -/
def fnExactKidsOfUptoRow : OpenClaim := { program := "ytddhfcemkdmadae", sum := "f0a17b1e6d0f4bb698308b57e894f6f5f3afc51ac62bdb1a622b9c9d6103e59a", func := "loop.example/g00388/laws.FnExactKidsOf", spec := "fnExactKidsOf", plainKeys := false, apart := false, narrowed := true }
def FnExactKidsOfUptoSaid : Prop := fnExactKidsOfUptoRow.holds Try.pinned (OpenSpec.upto fnExactKidsOfSpec)

/-- 'laws.FnExactLeavesOf', WHERE WHAT IT READS IS OF BULK AT MOST 1048576: true; the input reads as it did. -/
def fnExactLeavesOfUptoRow : OpenClaim := { program := "ytddhfcemkdmadae", sum := "f0a17b1e6d0f4bb698308b57e894f6f5f3afc51ac62bdb1a622b9c9d6103e59a", func := "loop.example/g00388/laws.FnExactLeavesOf", spec := "fnExactLeavesOf", unfollowed := true, recurses := true, plainKeys := false, apart := false, narrowed := true }
def FnExactLeavesOfUptoSaid : Prop := fnExactLeavesOfUptoRow.holds Try.pinned (OpenSpec.upto fnExactLeavesOfSpec)

/-- 'laws.FnExactKeyAhead', WHERE WHAT IT READS IS OF BULK AT MOST 1048576: true; the input reads as it did. -/
def fnExactKeyAheadUptoRow : OpenClaim := { program := "ytddhfcemkdmadae", sum := "f0a17b1e6d0f4bb698308b57e894f6f5f3afc51ac62bdb1a622b9c9d6103e59a", func := "loop.example/g00388/laws.FnExactKeyAhead", spec := "fnExactKeyAhead", plainKeys := false, apart := false, narrowed := true }
def FnExactKeyAheadUptoSaid : Prop := fnExactKeyAheadUptoRow.holds Try.pinned (OpenSpec.upto fnExactKeyAheadSpec)

/-- 'laws.FnExactKnownOk', WHERE WHAT IT READS IS OF BULK AT MOST 1048576: true; the input reads as it did. -/
def fnExactKnownOkUptoRow : OpenClaim := { program := "ytddhfcemkdmadae", sum := "f0a17b1e6d0f4bb698308b57e894f6f5f3afc51ac62bdb1a622b9c9d6103e59a", func := "loop.example/g00388/laws.FnExactKnownOk", spec := "fnExactKnownOk", plainKeys := false, apart := false, narrowed := true }
def FnExactKnownOkUptoSaid : Prop := fnExactKnownOkUptoRow.holds Try.pinned (OpenSpec.upto fnExactKnownOkSpec)

/-- 'laws.FnExactWrapsOk', WHERE WHAT IT READS IS OF BULK AT MOST 1048576: true; the input reads as it did. -/
def fnExactWrapsOkUptoRow : OpenClaim := { program := "ytddhfcemkdmadae", sum := "f0a17b1e6d0f4bb698308b57e894f6f5f3afc51ac62bdb1a622b9c9d6103e59a", func := "loop.example/g00388/laws.FnExactWrapsOk", spec := "fnExactWrapsOk", plainKeys := false, apart := false, narrowed := true }
def FnExactWrapsOkUptoSaid : Prop := fnExactWrapsOkUptoRow.holds Try.pinned (OpenSpec.upto fnExactWrapsOkSpec)

/-- 'laws.FnExactLearned', WHERE WHAT IT READS IS OF BULK AT MOST 1048576: true; the input reads as it did. -/
def fnExactLearnedUptoRow : OpenClaim := { program := "ytddhfcemkdmadae", sum := "f0a17b1e6d0f4bb698308b57e894f6f5f3afc51ac62bdb1a622b9c9d6103e59a", func := "loop.example/g00388/laws.FnExactLearned", spec := "fnExactLearned", unfollowed := true, recurses := true, plainKeys := false, apart := false, narrowed := true }
def FnExactLearnedUptoSaid : Prop := fnExactLearnedUptoRow.holds Try.pinned (OpenSpec.upto fnExactLearnedSpec)

end Rows
end Go.Proofs.Ytddhfcemkdmadae
