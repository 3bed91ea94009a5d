/-
  No cell of these rows narrows 'for every input' (looked for: loops, veiled, ifaces, maps, wideKeys, modest, calm, conditions, laid).
  DERIVED. THE GIVEN ROWS OF THIS SEAT. 6 by the template 'for every input the law returns true; each argument reads behind the call as it read before'; 0 by the template 'total and deterministic' (their statements: YtkkjpkldfllfiaaTotals.lean).
  GIVEN WITH THE SEED: the statements are not yours to turn. If you find one false, say at which input.
  Laid BY PROGRAM, IN A SANDBOX (cutbox-rows.mjs): the forced cells as the released guide's own fill.sh prints them over the translation 96746306746e84bc… (all of the seat's roots in one cut). By AI agents, Wed Nov 11 2026. No macro, syntax, notation, axiom, sorry.
-/
import Derived.Test.YtkkjpkldfllfiaaChecked
import GoSem.Claim
import GoSem.ClaimJoined
import GoSem.ClaimMapViews
import Derived.JoinedTies
import Derived.KernelRfl
namespace Go.Proofs.Ytkkjpkldfllfiaa
/- THE CELL 'sum', in the pinned program and in every row, IS THE sha256 OF THE DUMP (.gsa) THAT YtkkjpkldfllfiaaProg.lean LOADS. Nothing in Lean hashes anything: it is a label: what it is worth is what the hold of that sum in a sandbox is worth. -/
noncomputable def Try.pinned : Pinned := { name := "ytkkjpkldfllfiaa", sum := "96746306746e84bce6b06ac76f9982246270482a4d7ac8b4db0a777f014b2bde", checked := Try.checked }
namespace Rows
def none {H : Type} : Left H := { results := [], args := [] }

/-- 'laws.FnLearned': WHATEVER THE INPUT: true; the input reads as it did. -/
def fnLearnedSpec : ChangeSpec := { name := "fnLearned", fn := fun _ => fun
  | [d] => { results := [.lit (.bool true)], args := [d] }
  | _ => none }
def fnLearnedRow : OpenClaim := { program := "ytkkjpkldfllfiaa", sum := "96746306746e84bce6b06ac76f9982246270482a4d7ac8b4db0a777f014b2bde", func := "loop.example/g00388/laws.FnLearned", spec := "fnLearned", unfollowed := true, recurses := true, plainKeys := false, apart := false }
def FnLearnedSaid : Prop := fnLearnedRow.holds Try.pinned (OpenSpec.ofChange fnLearnedSpec)

/-- ITS FALSE NEIGHBOUR: 'it returns false'. Refute it at one input. -/
def fnLearnedWrong : ChangeSpec := { name := "fnLearned", fn := fun _ => fun
  | [d] => { results := [.lit (.bool false)], args := [d] }
  | _ => none }
def FnLearnedWrongFalsely : Prop := fnLearnedRow.holds Try.pinned (OpenSpec.ofChange fnLearnedWrong)

/-- 'laws.FnCanLearn': WHATEVER THE INPUT: true; the input reads as it did. -/
def fnCanLearnSpec : ChangeSpec := { name := "fnCanLearn", fn := fun _ => fun
  | [d] => { results := [.lit (.bool true)], args := [d] }
  | _ => none }
def fnCanLearnRow : OpenClaim := { program := "ytkkjpkldfllfiaa", sum := "96746306746e84bce6b06ac76f9982246270482a4d7ac8b4db0a777f014b2bde", func := "loop.example/g00388/laws.FnCanLearn", spec := "fnCanLearn", unfollowed := true, recurses := true, plainKeys := false, apart := false }
def FnCanLearnSaid : Prop := fnCanLearnRow.holds Try.pinned (OpenSpec.ofChange fnCanLearnSpec)

/-- ITS FALSE NEIGHBOUR: 'it returns false'. Refute it at one input. -/
def fnCanLearnWrong : ChangeSpec := { name := "fnCanLearn", fn := fun _ => fun
  | [d] => { results := [.lit (.bool false)], args := [d] }
  | _ => none }
def FnCanLearnWrongFalsely : Prop := fnCanLearnRow.holds Try.pinned (OpenSpec.ofChange fnCanLearnWrong)

/-- 'laws.FnExactLearned': WHATEVER THE INPUT: true; the input reads as it did. -/
def fnExactLearnedSpec : ChangeSpec := { name := "fnExactLearned", fn := fun _ => fun
  | [d1, d2] => { results := [.lit (.bool true)], args := [d1, d2] }
  | _ => none }
def fnExactLearnedRow : OpenClaim := { program := "ytkkjpkldfllfiaa", sum := "96746306746e84bce6b06ac76f9982246270482a4d7ac8b4db0a777f014b2bde", func := "loop.example/g00388/laws.FnExactLearned", spec := "fnExactLearned", unfollowed := true, recurses := true, plainKeys := false, apart := false }
def FnExactLearnedSaid : Prop := fnExactLearnedRow.holds Try.pinned (OpenSpec.ofChange fnExactLearnedSpec)

/-- ITS FALSE NEIGHBOUR: 'it returns false'. Refute it at one input. -/
def fnExactLearnedWrong : ChangeSpec := { name := "fnExactLearned", fn := fun _ => fun
  | [d1, d2] => { results := [.lit (.bool false)], args := [d1, d2] }
  | _ => none }
def FnExactLearnedWrongFalsely : Prop := fnExactLearnedRow.holds Try.pinned (OpenSpec.ofChange fnExactLearnedWrong)

/-- 'laws.FnExactCanLearn': WHATEVER THE INPUT: true; the input reads as it did. -/
def fnExactCanLearnSpec : ChangeSpec := { name := "fnExactCanLearn", fn := fun _ => fun
  | [d1, d2, d3] => { results := [.lit (.bool true)], args := [d1, d2, d3] }
  | _ => none }
def fnExactCanLearnRow : OpenClaim := { program := "ytkkjpkldfllfiaa", sum := "96746306746e84bce6b06ac76f9982246270482a4d7ac8b4db0a777f014b2bde", func := "loop.example/g00388/laws.FnExactCanLearn", spec := "fnExactCanLearn", unfollowed := true, recurses := true, plainKeys := false, apart := false }
def FnExactCanLearnSaid : Prop := fnExactCanLearnRow.holds Try.pinned (OpenSpec.ofChange fnExactCanLearnSpec)

/-- ITS FALSE NEIGHBOUR: 'it returns false'. Refute it at one input. -/
def fnExactCanLearnWrong : ChangeSpec := { name := "fnExactCanLearn", fn := fun _ => fun
  | [d1, d2, d3] => { results := [.lit (.bool false)], args := [d1, d2, d3] }
  | _ => none }
def FnExactCanLearnWrongFalsely : Prop := fnExactCanLearnRow.holds Try.pinned (OpenSpec.ofChange fnExactCanLearnWrong)

/-- 'laws.FnExactApplied': WHATEVER THE INPUT: true; the input reads as it did. -/
def fnExactAppliedSpec : ChangeSpec := { name := "fnExactApplied", fn := fun _ => fun
  | [d1, d2] => { results := [.lit (.bool true)], args := [d1, d2] }
  | _ => none }
def fnExactAppliedRow : OpenClaim := { program := "ytkkjpkldfllfiaa", sum := "96746306746e84bce6b06ac76f9982246270482a4d7ac8b4db0a777f014b2bde", func := "loop.example/g00388/laws.FnExactApplied", spec := "fnExactApplied", unfollowed := true, recurses := true, plainKeys := false, apart := false }
def FnExactAppliedSaid : Prop := fnExactAppliedRow.holds Try.pinned (OpenSpec.ofChange fnExactAppliedSpec)

/-- ITS FALSE NEIGHBOUR: 'it returns false'. Refute it at one input. -/
def fnExactAppliedWrong : ChangeSpec := { name := "fnExactApplied", fn := fun _ => fun
  | [d1, d2] => { results := [.lit (.bool false)], args := [d1, d2] }
  | _ => none }
def FnExactAppliedWrongFalsely : Prop := fnExactAppliedRow.holds Try.pinned (OpenSpec.ofChange fnExactAppliedWrong)

/-- 'laws.FnExactCaughtUp': WHATEVER THE INPUT: true; the input reads as it did. -/
def fnExactCaughtUpSpec : ChangeSpec := { name := "fnExactCaughtUp", fn := fun _ => fun
  | [d1, d2] => { results := [.lit (.bool true)], args := [d1, d2] }
  | _ => none }
def fnExactCaughtUpRow : OpenClaim := { program := "ytkkjpkldfllfiaa", sum := "96746306746e84bce6b06ac76f9982246270482a4d7ac8b4db0a777f014b2bde", func := "loop.example/g00388/laws.FnExactCaughtUp", spec := "fnExactCaughtUp", unfollowed := true, recurses := true, plainKeys := false, apart := false }
def FnExactCaughtUpSaid : Prop := fnExactCaughtUpRow.holds Try.pinned (OpenSpec.ofChange fnExactCaughtUpSpec)

/-- ITS FALSE NEIGHBOUR: 'it returns false'. Refute it at one input. -/
def fnExactCaughtUpWrong : ChangeSpec := { name := "fnExactCaughtUp", fn := fun _ => fun
  | [d1, d2] => { results := [.lit (.bool false)], args := [d1, d2] }
  | _ => none }
def FnExactCaughtUpWrongFalsely : Prop := fnExactCaughtUpRow.holds Try.pinned (OpenSpec.ofChange fnExactCaughtUpWrong)

/- THE SECOND FORM. 'bulk': how many values and letters a reading holds, each counted each time it is reached (what is shared counts as often as it is met; a slice's spare places count too). A statement '..UptoSaid' is the law's where the arguments, and the package variables that the reading takes, are together of bulk at most 1048576: NARROWER than '..Said'. Prove '..Said' where nothing that the law and all that it calls make is longer than what came in: it says more and counts as full. Else prove '..UptoSaid'. A law counts once. -/
mutual
def uptoBulk {H : Type} : DataW H → Nat
  | .lit (.string bytes) => bytes.length + 1
  | .lit _ => 1
  | .nil => 1
  | .ptr d => uptoBulk d + 1
  | .slice elems spare => uptoBulkAll elems + uptoBulkAll spare + 1
  | .agg parts => uptoBulkAll parts + 1
  | .iface _ d => uptoBulk d + 1
  | .map entries => uptoBulkEntries entries + 1
  | .held _ => 1
def uptoBulkAll {H : Type} : List (DataW H) → Nat
  | [] => 0
  | d :: r => uptoBulk d + uptoBulkAll r
def uptoBulkEntries {H : Type} : List (Lit × DataW H) → Nat
  | [] => 0
  | x :: r => uptoBulkEntry x + uptoBulkEntries r
def uptoBulkEntry {H : Type} : Lit × DataW H → Nat
  | (.string bytes, d) => bytes.length + uptoBulk d + 1
  | (_, d) => uptoBulk d + 1
 end
def uptoSmall : (H : Type) → List (DataW H) → Bool := fun _ ds => decide (uptoBulkAll ds ≤ 1048576)
def OpenSpec.upto (s : _root_.Go.ChangeSpec) : _root_.Go.OpenSpec := { _root_.Go.OpenSpec.ofChange s with cond := some uptoSmall }

/-- 'laws.FnLearned', WHERE WHAT IT READS IS OF BULK AT MOST 1048576: true; the input reads as it did. -/
def fnLearnedUptoRow : OpenClaim := { program := "ytkkjpkldfllfiaa", sum := "96746306746e84bce6b06ac76f9982246270482a4d7ac8b4db0a777f014b2bde", func := "loop.example/g00388/laws.FnLearned", spec := "fnLearned", unfollowed := true, recurses := true, plainKeys := false, apart := false, narrowed := true }
def FnLearnedUptoSaid : Prop := fnLearnedUptoRow.holds Try.pinned (OpenSpec.upto fnLearnedSpec)

/-- 'laws.FnCanLearn', WHERE WHAT IT READS IS OF BULK AT MOST 1048576: true; the input reads as it did. -/
def fnCanLearnUptoRow : OpenClaim := { program := "ytkkjpkldfllfiaa", sum := "96746306746e84bce6b06ac76f9982246270482a4d7ac8b4db0a777f014b2bde", func := "loop.example/g00388/laws.FnCanLearn", spec := "fnCanLearn", unfollowed := true, recurses := true, plainKeys := false, apart := false, narrowed := true }
def FnCanLearnUptoSaid : Prop := fnCanLearnUptoRow.holds Try.pinned (OpenSpec.upto fnCanLearnSpec)

/-- 'laws.FnExactLearned', WHERE WHAT IT READS IS OF BULK AT MOST 1048576: true; the input reads as it did. -/
def fnExactLearnedUptoRow : OpenClaim := { program := "ytkkjpkldfllfiaa", sum := "96746306746e84bce6b06ac76f9982246270482a4d7ac8b4db0a777f014b2bde", func := "loop.example/g00388/laws.FnExactLearned", spec := "fnExactLearned", unfollowed := true, recurses := true, plainKeys := false, apart := false, narrowed := true }
def FnExactLearnedUptoSaid : Prop := fnExactLearnedUptoRow.holds Try.pinned (OpenSpec.upto fnExactLearnedSpec)

/-- 'laws.FnExactCanLearn', WHERE WHAT IT READS IS OF BULK AT MOST 1048576: true; the input reads as it did. -/
def fnExactCanLearnUptoRow : OpenClaim := { program := "ytkkjpkldfllfiaa", sum := "96746306746e84bce6b06ac76f9982246270482a4d7ac8b4db0a777f014b2bde", func := "loop.example/g00388/laws.FnExactCanLearn", spec := "fnExactCanLearn", unfollowed := true, recurses := true, plainKeys := false, apart := false, narrowed := true }
def FnExactCanLearnUptoSaid : Prop := fnExactCanLearnUptoRow.holds Try.pinned (OpenSpec.upto fnExactCanLearnSpec)

/-- 'laws.FnExactApplied', WHERE WHAT IT READS IS OF BULK AT MOST 1048576: true; the input reads as it did. -/
def fnExactAppliedUptoRow : OpenClaim := { program := "ytkkjpkldfllfiaa", sum := "96746306746e84bce6b06ac76f9982246270482a4d7ac8b4db0a777f014b2bde", func := "loop.example/g00388/laws.FnExactApplied", spec := "fnExactApplied", unfollowed := true, recurses := true, plainKeys := false, apart := false, narrowed := true }
def FnExactAppliedUptoSaid : Prop := fnExactAppliedUptoRow.holds Try.pinned (OpenSpec.upto fnExactAppliedSpec)

/-- 'laws.FnExactCaughtUp', WHERE WHAT IT READS IS OF BULK AT MOST 1048576: true; the input reads as it did. -/
def fnExactCaughtUpUptoRow : OpenClaim := { program := "ytkkjpkldfllfiaa", sum := "96746306746e84bce6b06ac76f9982246270482a4d7ac8b4db0a777f014b2bde", func := "loop.example/g00388/laws.FnExactCaughtUp", spec := "fnExactCaughtUp", unfollowed := true, recurses := true, plainKeys := false, apart := false, narrowed := true }
def FnExactCaughtUpUptoSaid : Prop := fnExactCaughtUpUptoRow.holds Try.pinned (OpenSpec.upto fnExactCaughtUpSpec)

end Rows
end Go.Proofs.Ytkkjpkldfllfiaa
