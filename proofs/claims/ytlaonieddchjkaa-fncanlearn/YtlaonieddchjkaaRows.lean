/-
  No cell of these rows narrows 'for every input' (looked for: loops, veiled, ifaces, maps, wideKeys, modest, calm, conditions, laid).
  DERIVED. THE GIVEN ROWS OF THIS SEAT. 5 by the template 'for every input the law returns true; each argument reads behind the call as it read before'; 0 by the template 'total and deterministic' (their statements: YtlaonieddchjkaaTotals.lean).
  GIVEN WITH THE SEED: the statements are not yours to turn. If you find one false, say at which input.
  Laid BY PROGRAM, IN A SANDBOX (cutbox-rows.mjs): the forced cells as the released guide's own fill.sh prints them over the translation 9c381b780b3b0a70… (all of the seat's roots in one cut). By AI agents, Wed Nov 11 2026. No macro, syntax, notation, axiom, sorry.
-/
import Derived.Test.YtlaonieddchjkaaChecked
import GoSem.Claim
import GoSem.ClaimJoined
import GoSem.ClaimMapViews
import Derived.JoinedTies
import Derived.KernelRfl
namespace Go.Proofs.Ytlaonieddchjkaa
/- THE CELL 'sum', in the pinned program and in every row, IS THE sha256 OF THE DUMP (.gsa) THAT YtlaonieddchjkaaProg.lean LOADS. Nothing in Lean hashes anything: it is a label: what it is worth is what the hold of that sum in a sandbox is worth. -/
noncomputable def Try.pinned : Pinned := { name := "ytlaonieddchjkaa", sum := "9c381b780b3b0a702c9de4b6d79f1d2ed4f0d2c6846d1543dbcfcdac83cf21fe", checked := Try.checked }
namespace Rows
def none {H : Type} : Left H := { results := [], args := [] }

/-- 'laws.FnTrees': WHATEVER THE INPUT: true; the input reads as it did. -/
def fnTreesSpec : ChangeSpec := { name := "fnTrees", fn := fun _ => fun
  | [d] => { results := [.lit (.bool true)], args := [d] }
  | _ => none }
def fnTreesRow : OpenClaim := { program := "ytlaonieddchjkaa", sum := "9c381b780b3b0a702c9de4b6d79f1d2ed4f0d2c6846d1543dbcfcdac83cf21fe", func := "loop.example/g00388/laws.FnTrees", spec := "fnTrees", unfollowed := true, recurses := true, plainKeys := false, apart := false }
def FnTreesSaid : Prop := fnTreesRow.holds Try.pinned (OpenSpec.ofChange fnTreesSpec)

/-- ITS FALSE NEIGHBOUR: 'it returns false'. Refute it at one input. -/
def fnTreesWrong : ChangeSpec := { name := "fnTrees", fn := fun _ => fun
  | [d] => { results := [.lit (.bool false)], args := [d] }
  | _ => none }
def FnTreesWrongFalsely : Prop := fnTreesRow.holds Try.pinned (OpenSpec.ofChange fnTreesWrong)

/-- 'laws.FnLearned': WHATEVER THE INPUT: true; the input reads as it did. -/
def fnLearnedSpec : ChangeSpec := { name := "fnLearned", fn := fun _ => fun
  | [d] => { results := [.lit (.bool true)], args := [d] }
  | _ => none }
def fnLearnedRow : OpenClaim := { program := "ytlaonieddchjkaa", sum := "9c381b780b3b0a702c9de4b6d79f1d2ed4f0d2c6846d1543dbcfcdac83cf21fe", func := "loop.example/g00388/laws.FnLearned", spec := "fnLearned", unfollowed := true, recurses := true, plainKeys := false, apart := false }
def FnLearnedSaid : Prop := fnLearnedRow.holds Try.pinned (OpenSpec.ofChange fnLearnedSpec)

/-- ITS FALSE NEIGHBOUR: 'it returns false'. Refute it at one input. -/
def fnLearnedWrong : ChangeSpec := { name := "fnLearned", fn := fun _ => fun
  | [d] => { results := [.lit (.bool false)], args := [d] }
  | _ => none }
def FnLearnedWrongFalsely : Prop := fnLearnedRow.holds Try.pinned (OpenSpec.ofChange fnLearnedWrong)

/-- 'laws.FnCanLearn': WHATEVER THE INPUT: true; the input reads as it did. -/
def fnCanLearnSpec : ChangeSpec := { name := "fnCanLearn", fn := fun _ => fun
  | [d] => { results := [.lit (.bool true)], args := [d] }
  | _ => none }
def fnCanLearnRow : OpenClaim := { program := "ytlaonieddchjkaa", sum := "9c381b780b3b0a702c9de4b6d79f1d2ed4f0d2c6846d1543dbcfcdac83cf21fe", func := "loop.example/g00388/laws.FnCanLearn", spec := "fnCanLearn", unfollowed := true, recurses := true, plainKeys := false, apart := false }
def FnCanLearnSaid : Prop := fnCanLearnRow.holds Try.pinned (OpenSpec.ofChange fnCanLearnSpec)

/-- ITS FALSE NEIGHBOUR: 'it returns false'. Refute it at one input. -/
def fnCanLearnWrong : ChangeSpec := { name := "fnCanLearn", fn := fun _ => fun
  | [d] => { results := [.lit (.bool false)], args := [d] }
  | _ => none }
def FnCanLearnWrongFalsely : Prop := fnCanLearnRow.holds Try.pinned (OpenSpec.ofChange fnCanLearnWrong)

/-- 'laws.FnKeyOrder': WHATEVER THE INPUT: true; the input reads as it did. -/
def fnKeyOrderSpec : ChangeSpec := { name := "fnKeyOrder", fn := fun _ => fun
  | [d] => { results := [.lit (.bool true)], args := [d] }
  | _ => none }
def fnKeyOrderRow : OpenClaim := { program := "ytlaonieddchjkaa", sum := "9c381b780b3b0a702c9de4b6d79f1d2ed4f0d2c6846d1543dbcfcdac83cf21fe", func := "loop.example/g00388/laws.FnKeyOrder", spec := "fnKeyOrder", plainKeys := false, apart := false }
def FnKeyOrderSaid : Prop := fnKeyOrderRow.holds Try.pinned (OpenSpec.ofChange fnKeyOrderSpec)

/-- ITS FALSE NEIGHBOUR: 'it returns false'. Refute it at one input. -/
def fnKeyOrderWrong : ChangeSpec := { name := "fnKeyOrder", fn := fun _ => fun
  | [d] => { results := [.lit (.bool false)], args := [d] }
  | _ => none }
def FnKeyOrderWrongFalsely : Prop := fnKeyOrderRow.holds Try.pinned (OpenSpec.ofChange fnKeyOrderWrong)

/-- 'laws.FnKeysFor': WHATEVER THE INPUT: true; the input reads as it did. -/
def fnKeysForSpec : ChangeSpec := { name := "fnKeysFor", fn := fun _ => fun
  | [d] => { results := [.lit (.bool true)], args := [d] }
  | _ => none }
def fnKeysForRow : OpenClaim := { program := "ytlaonieddchjkaa", sum := "9c381b780b3b0a702c9de4b6d79f1d2ed4f0d2c6846d1543dbcfcdac83cf21fe", func := "loop.example/g00388/laws.FnKeysFor", spec := "fnKeysFor", unfollowed := true, recurses := true, plainKeys := false, apart := false }
def FnKeysForSaid : Prop := fnKeysForRow.holds Try.pinned (OpenSpec.ofChange fnKeysForSpec)

/-- ITS FALSE NEIGHBOUR: 'it returns false'. Refute it at one input. -/
def fnKeysForWrong : ChangeSpec := { name := "fnKeysFor", fn := fun _ => fun
  | [d] => { results := [.lit (.bool false)], args := [d] }
  | _ => none }
def FnKeysForWrongFalsely : Prop := fnKeysForRow.holds Try.pinned (OpenSpec.ofChange fnKeysForWrong)

/- THE SECOND FORM. 'bulk': how many values and letters a reading holds, each counted each time it is reached (what is shared counts as often as it is met; a slice's spare places count too). A statement '..UptoSaid' is the law's where the arguments, and the package variables that the reading takes, are together of bulk at most 1048576: NARROWER than '..Said'. Prove '..Said' where nothing that the law and all that it calls make is longer than what came in: it says more and counts as full. Else prove '..UptoSaid'. A law counts once. -/
mutual
def uptoBulk {H : Type} : DataW H → Nat
  | .lit (.string bytes) => bytes.length + 1
  | .lit _ => 1
  | .nil => 1
  | .ptr d => uptoBulk d + 1
  | .slice elems spare => uptoBulkAll elems + uptoBulkAll spare + 1
  | .agg parts => uptoBulkAll parts + 1
  | .iface _ d => uptoBulk d + 1
  | .map entries => uptoBulkEntries entries + 1
  | .held _ => 1
def uptoBulkAll {H : Type} : List (DataW H) → Nat
  | [] => 0
  | d :: r => uptoBulk d + uptoBulkAll r
def uptoBulkEntries {H : Type} : List (Lit × DataW H) → Nat
  | [] => 0
  | x :: r => uptoBulkEntry x + uptoBulkEntries r
def uptoBulkEntry {H : Type} : Lit × DataW H → Nat
  | (.string bytes, d) => bytes.length + uptoBulk d + 1
  | (_, d) => uptoBulk d + 1
 end
def uptoSmall : (H : Type) → List (DataW H) → Bool := fun _ ds => decide (uptoBulkAll ds ≤ 1048576)
def OpenSpec.upto (s : _root_.Go.ChangeSpec) : _root_.Go.OpenSpec := { _root_.Go.OpenSpec.ofChange s with cond := some uptoSmall }

/-- 'laws.FnTrees', WHERE WHAT IT READS IS OF BULK AT MOST 1048576: true; the input reads as it did. -/
def fnTreesUptoRow : OpenClaim := { program := "ytlaonieddchjkaa", sum := "9c381b780b3b0a702c9de4b6d79f1d2ed4f0d2c6846d1543dbcfcdac83cf21fe", func := "loop.example/g00388/laws.FnTrees", spec := "fnTrees", unfollowed := true, recurses := true, plainKeys := false, apart := false, narrowed := true }
def FnTreesUptoSaid : Prop := fnTreesUptoRow.holds Try.pinned (OpenSpec.upto fnTreesSpec)

/-- 'laws.FnLearned', WHERE WHAT IT READS IS OF BULK AT MOST 1048576: true; the input reads as it did. -/
def fnLearnedUptoRow : OpenClaim := { program := "ytlaonieddchjkaa", sum := "9c381b780b3b0a702c9de4b6d79f1d2ed4f0d2c6846d1543dbcfcdac83cf21fe", func := "loop.example/g00388/laws.FnLearned", spec := "fnLearned", unfollowed := true, recurses := true, plainKeys := false, apart := false, narrowed := true }
def FnLearnedUptoSaid : Prop := fnLearnedUptoRow.holds Try.pinned (OpenSpec.upto fnLearnedSpec)

/-- 'laws.FnCanLearn', WHERE WHAT IT READS IS OF BULK AT MOST 1048576: true; the input reads as it did. -/
def fnCanLearnUptoRow : OpenClaim := { program := "ytlaonieddchjkaa", sum := "9c381b780b3b0a702c9de4b6d79f1d2ed4f0d2c6846d1543dbcfcdac83cf21fe", func := "loop.example/g00388/laws.FnCanLearn", spec := "fnCanLearn", unfollowed := true, recurses := true, plainKeys := false, apart := false, narrowed := true }
def FnCanLearnUptoSaid : Prop := fnCanLearnUptoRow.holds Try.pinned (OpenSpec.upto fnCanLearnSpec)

/-- 'laws.FnKeyOrder', WHERE WHAT IT READS IS OF BULK AT MOST 1048576: true; the input reads as it did. -/
def fnKeyOrderUptoRow : OpenClaim := { program := "ytlaonieddchjkaa", sum := "9c381b780b3b0a702c9de4b6d79f1d2ed4f0d2c6846d1543dbcfcdac83cf21fe", func := "loop.example/g00388/laws.FnKeyOrder", spec := "fnKeyOrder", plainKeys := false, apart := false, narrowed := true }
def FnKeyOrderUptoSaid : Prop := fnKeyOrderUptoRow.holds Try.pinned (OpenSpec.upto fnKeyOrderSpec)

/-- 'laws.FnKeysFor', WHERE WHAT IT READS IS OF BULK AT MOST 1048576: true; the input reads as it did. -/
def fnKeysForUptoRow : OpenClaim := { program := "ytlaonieddchjkaa", sum := "9c381b780b3b0a702c9de4b6d79f1d2ed4f0d2c6846d1543dbcfcdac83cf21fe", func := "loop.example/g00388/laws.FnKeysFor", spec := "fnKeysFor", unfollowed := true, recurses := true, plainKeys := false, apart := false, narrowed := true }
def FnKeysForUptoSaid : Prop := fnKeysForUptoRow.holds Try.pinned (OpenSpec.upto fnKeysForSpec)

end Rows
end Go.Proofs.Ytlaonieddchjkaa
