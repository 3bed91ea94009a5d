/-
  No cell of these rows narrows 'for every input' (looked for: loops, veiled, ifaces, maps, wideKeys, modest, calm, conditions, laid).
  DERIVED. THE GIVEN ROWS OF THIS SEAT. 6 by the template 'for every input the law returns true; each argument reads behind the call as it read before'; 0 by the template 'total and deterministic' (their statements: YtmkknlmkiefbiaaTotals.lean).
  GIVEN WITH THE SEED: the statements are not yours to turn. If you find one false, say at which input.
  Laid BY PROGRAM, IN A SANDBOX (cutbox-rows.mjs): the forced cells as the released guide's own fill.sh prints them over the translation 424dcfa64787a1e7… (all of the seat's roots in one cut). By AI agents, Wed Nov 11 2026. No macro, syntax, notation, axiom, sorry.
-/
import Derived.Test.YtmkknlmkiefbiaaChecked
import GoSem.Claim
import GoSem.ClaimJoined
import GoSem.ClaimMapViews
import Derived.JoinedTies
import Derived.KernelRfl
namespace Go.Proofs.Ytmkknlmkiefbiaa
/- THE CELL 'sum', in the pinned program and in every row, IS THE sha256 OF THE DUMP (.gsa) THAT YtmkknlmkiefbiaaProg.lean LOADS. Nothing in Lean hashes anything: it is a label: what it is worth is what the hold of that sum in a sandbox is worth. -/
noncomputable def Try.pinned : Pinned := { name := "ytmkknlmkiefbiaa", sum := "424dcfa64787a1e7a75d63b06d24970cc3cc2290fa7f6779f4e18da9b12a499d", checked := Try.checked }
namespace Rows
def none {H : Type} : Left H := { results := [], args := [] }

/-- 'laws.FnKeysFor': WHATEVER THE INPUT: true; the input reads as it did. -/
def fnKeysForSpec : ChangeSpec := { name := "fnKeysFor", fn := fun _ => fun
  | [d] => { results := [.lit (.bool true)], args := [d] }
  | _ => none }
def fnKeysForRow : OpenClaim := { program := "ytmkknlmkiefbiaa", sum := "424dcfa64787a1e7a75d63b06d24970cc3cc2290fa7f6779f4e18da9b12a499d", func := "loop.example/g00388/laws.FnKeysFor", spec := "fnKeysFor", unfollowed := true, recurses := true, plainKeys := false, apart := false }
def FnKeysForSaid : Prop := fnKeysForRow.holds Try.pinned (OpenSpec.ofChange fnKeysForSpec)

/-- ITS FALSE NEIGHBOUR: 'it returns false'. Refute it at one input. -/
def fnKeysForWrong : ChangeSpec := { name := "fnKeysFor", fn := fun _ => fun
  | [d] => { results := [.lit (.bool false)], args := [d] }
  | _ => none }
def FnKeysForWrongFalsely : Prop := fnKeysForRow.holds Try.pinned (OpenSpec.ofChange fnKeysForWrong)

/-- 'laws.FnApplied': WHATEVER THE INPUT: true; the input reads as it did. -/
def fnAppliedSpec : ChangeSpec := { name := "fnApplied", fn := fun _ => fun
  | [d] => { results := [.lit (.bool true)], args := [d] }
  | _ => none }
def fnAppliedRow : OpenClaim := { program := "ytmkknlmkiefbiaa", sum := "424dcfa64787a1e7a75d63b06d24970cc3cc2290fa7f6779f4e18da9b12a499d", func := "loop.example/g00388/laws.FnApplied", spec := "fnApplied", unfollowed := true, recurses := true, plainKeys := false, apart := false }
def FnAppliedSaid : Prop := fnAppliedRow.holds Try.pinned (OpenSpec.ofChange fnAppliedSpec)

/-- ITS FALSE NEIGHBOUR: 'it returns false'. Refute it at one input. -/
def fnAppliedWrong : ChangeSpec := { name := "fnApplied", fn := fun _ => fun
  | [d] => { results := [.lit (.bool false)], args := [d] }
  | _ => none }
def FnAppliedWrongFalsely : Prop := fnAppliedRow.holds Try.pinned (OpenSpec.ofChange fnAppliedWrong)

/-- 'laws.FnAccepted': WHATEVER THE INPUT: true; the input reads as it did. -/
def fnAcceptedSpec : ChangeSpec := { name := "fnAccepted", fn := fun _ => fun
  | [d] => { results := [.lit (.bool true)], args := [d] }
  | _ => none }
def fnAcceptedRow : OpenClaim := { program := "ytmkknlmkiefbiaa", sum := "424dcfa64787a1e7a75d63b06d24970cc3cc2290fa7f6779f4e18da9b12a499d", func := "loop.example/g00388/laws.FnAccepted", spec := "fnAccepted", plainKeys := false, apart := false }
def FnAcceptedSaid : Prop := fnAcceptedRow.holds Try.pinned (OpenSpec.ofChange fnAcceptedSpec)

/-- ITS FALSE NEIGHBOUR: 'it returns false'. Refute it at one input. -/
def fnAcceptedWrong : ChangeSpec := { name := "fnAccepted", fn := fun _ => fun
  | [d] => { results := [.lit (.bool false)], args := [d] }
  | _ => none }
def FnAcceptedWrongFalsely : Prop := fnAcceptedRow.holds Try.pinned (OpenSpec.ofChange fnAcceptedWrong)

/-- 'laws.FnOnce': WHATEVER THE INPUT: true; the input reads as it did. -/
def fnOnceSpec : ChangeSpec := { name := "fnOnce", fn := fun _ => fun
  | [d] => { results := [.lit (.bool true)], args := [d] }
  | _ => none }
def fnOnceRow : OpenClaim := { program := "ytmkknlmkiefbiaa", sum := "424dcfa64787a1e7a75d63b06d24970cc3cc2290fa7f6779f4e18da9b12a499d", func := "loop.example/g00388/laws.FnOnce", spec := "fnOnce", plainKeys := false, apart := false }
def FnOnceSaid : Prop := fnOnceRow.holds Try.pinned (OpenSpec.ofChange fnOnceSpec)

/-- ITS FALSE NEIGHBOUR: 'it returns false'. Refute it at one input. -/
def fnOnceWrong : ChangeSpec := { name := "fnOnce", fn := fun _ => fun
  | [d] => { results := [.lit (.bool false)], args := [d] }
  | _ => none }
def FnOnceWrongFalsely : Prop := fnOnceRow.holds Try.pinned (OpenSpec.ofChange fnOnceWrong)

/-- 'laws.FnExactApplied': WHATEVER THE INPUT: true; the input reads as it did. -/
def fnExactAppliedSpec : ChangeSpec := { name := "fnExactApplied", fn := fun _ => fun
  | [d1, d2] => { results := [.lit (.bool true)], args := [d1, d2] }
  | _ => none }
def fnExactAppliedRow : OpenClaim := { program := "ytmkknlmkiefbiaa", sum := "424dcfa64787a1e7a75d63b06d24970cc3cc2290fa7f6779f4e18da9b12a499d", func := "loop.example/g00388/laws.FnExactApplied", spec := "fnExactApplied", unfollowed := true, recurses := true, plainKeys := false, apart := false }
def FnExactAppliedSaid : Prop := fnExactAppliedRow.holds Try.pinned (OpenSpec.ofChange fnExactAppliedSpec)

/-- ITS FALSE NEIGHBOUR: 'it returns false'. Refute it at one input. -/
def fnExactAppliedWrong : ChangeSpec := { name := "fnExactApplied", fn := fun _ => fun
  | [d1, d2] => { results := [.lit (.bool false)], args := [d1, d2] }
  | _ => none }
def FnExactAppliedWrongFalsely : Prop := fnExactAppliedRow.holds Try.pinned (OpenSpec.ofChange fnExactAppliedWrong)

/-- 'laws.FnExactCaughtUp': WHATEVER THE INPUT: true; the input reads as it did. -/
def fnExactCaughtUpSpec : ChangeSpec := { name := "fnExactCaughtUp", fn := fun _ => fun
  | [d1, d2] => { results := [.lit (.bool true)], args := [d1, d2] }
  | _ => none }
def fnExactCaughtUpRow : OpenClaim := { program := "ytmkknlmkiefbiaa", sum := "424dcfa64787a1e7a75d63b06d24970cc3cc2290fa7f6779f4e18da9b12a499d", func := "loop.example/g00388/laws.FnExactCaughtUp", spec := "fnExactCaughtUp", unfollowed := true, recurses := true, plainKeys := false, apart := false }
def FnExactCaughtUpSaid : Prop := fnExactCaughtUpRow.holds Try.pinned (OpenSpec.ofChange fnExactCaughtUpSpec)

/-- ITS FALSE NEIGHBOUR: 'it returns false'. Refute it at one input. -/
def fnExactCaughtUpWrong : ChangeSpec := { name := "fnExactCaughtUp", fn := fun _ => fun
  | [d1, d2] => { results := [.lit (.bool false)], args := [d1, d2] }
  | _ => none }
def FnExactCaughtUpWrongFalsely : Prop := fnExactCaughtUpRow.holds Try.pinned (OpenSpec.ofChange fnExactCaughtUpWrong)

/- THE SECOND FORM. 'bulk': how many values and letters a reading holds, each counted each time it is reached (what is shared counts as often as it is met; a slice's spare places count too). A statement '..UptoSaid' is the law's where the arguments, and the package variables that the reading takes, are together of bulk at most 1048576: NARROWER than '..Said'. Prove '..Said' where nothing that the law and all that it calls make is longer than what came in: it says more and counts as full. Else prove '..UptoSaid'. A law counts once. -/
mutual
def uptoBulk {H : Type} : DataW H → Nat
  | .lit (.string bytes) => bytes.length + 1
  | .lit _ => 1
  | .nil => 1
  | .ptr d => uptoBulk d + 1
  | .slice elems spare => uptoBulkAll elems + uptoBulkAll spare + 1
  | .agg parts => uptoBulkAll parts + 1
  | .iface _ d => uptoBulk d + 1
  | .map entries => uptoBulkEntries entries + 1
  | .held _ => 1
def uptoBulkAll {H : Type} : List (DataW H) → Nat
  | [] => 0
  | d :: r => uptoBulk d + uptoBulkAll r
def uptoBulkEntries {H : Type} : List (Lit × DataW H) → Nat
  | [] => 0
  | x :: r => uptoBulkEntry x + uptoBulkEntries r
def uptoBulkEntry {H : Type} : Lit × DataW H → Nat
  | (.string bytes, d) => bytes.length + uptoBulk d + 1
  | (_, d) => uptoBulk d + 1
 end
def uptoSmall : (H : Type) → List (DataW H) → Bool := fun _ ds => decide (uptoBulkAll ds ≤ 1048576)
def OpenSpec.upto (s : _root_.Go.ChangeSpec) : _root_.Go.OpenSpec := { _root_.Go.OpenSpec.ofChange s with cond := some uptoSmall }

/-- 'laws.FnKeysFor', WHERE WHAT IT READS IS OF BULK AT MOST 1048576: true; the input reads as it did. -/
def fnKeysForUptoRow : OpenClaim := { program := "ytmkknlmkiefbiaa", sum := "424dcfa64787a1e7a75d63b06d24970cc3cc2290fa7f6779f4e18da9b12a499d", func := "loop.example/g00388/laws.FnKeysFor", spec := "fnKeysFor", unfollowed := true, recurses := true, plainKeys := false, apart := false, narrowed := true }
def FnKeysForUptoSaid : Prop := fnKeysForUptoRow.holds Try.pinned (OpenSpec.upto fnKeysForSpec)

/-- 'laws.FnApplied', WHERE WHAT IT READS IS OF BULK AT MOST 1048576: true; the input reads as it did. -/
def fnAppliedUptoRow : OpenClaim := { program := "ytmkknlmkiefbiaa", sum := "424dcfa64787a1e7a75d63b06d24970cc3cc2290fa7f6779f4e18da9b12a499d", func := "loop.example/g00388/laws.FnApplied", spec := "fnApplied", unfollowed := true, recurses := true, plainKeys := false, apart := false, narrowed := true }
def FnAppliedUptoSaid : Prop := fnAppliedUptoRow.holds Try.pinned (OpenSpec.upto fnAppliedSpec)

/-- 'laws.FnAccepted', WHERE WHAT IT READS IS OF BULK AT MOST 1048576: true; the input reads as it did. -/
def fnAcceptedUptoRow : OpenClaim := { program := "ytmkknlmkiefbiaa", sum := "424dcfa64787a1e7a75d63b06d24970cc3cc2290fa7f6779f4e18da9b12a499d", func := "loop.example/g00388/laws.FnAccepted", spec := "fnAccepted", plainKeys := false, apart := false, narrowed := true }
def FnAcceptedUptoSaid : Prop := fnAcceptedUptoRow.holds Try.pinned (OpenSpec.upto fnAcceptedSpec)

/-- 'laws.FnOnce', WHERE WHAT IT READS IS OF BULK AT MOST 1048576: true; the input reads as it did. -/
def fnOnceUptoRow : OpenClaim := { program := "ytmkknlmkiefbiaa", sum := "424dcfa64787a1e7a75d63b06d24970cc3cc2290fa7f6779f4e18da9b12a499d", func := "loop.example/g00388/laws.FnOnce", spec := "fnOnce", plainKeys := false, apart := false, narrowed := true }
def FnOnceUptoSaid : Prop := fnOnceUptoRow.holds Try.pinned (OpenSpec.upto fnOnceSpec)

/-- 'laws.FnExactApplied', WHERE WHAT IT READS IS OF BULK AT MOST 1048576: true; the input reads as it did. -/
def fnExactAppliedUptoRow : OpenClaim := { program := "ytmkknlmkiefbiaa", sum := "424dcfa64787a1e7a75d63b06d24970cc3cc2290fa7f6779f4e18da9b12a499d", func := "loop.example/g00388/laws.FnExactApplied", spec := "fnExactApplied", unfollowed := true, recurses := true, plainKeys := false, apart := false, narrowed := true }
def FnExactAppliedUptoSaid : Prop := fnExactAppliedUptoRow.holds Try.pinned (OpenSpec.upto fnExactAppliedSpec)

/-- 'laws.FnExactCaughtUp', WHERE WHAT IT READS IS OF BULK AT MOST 1048576: true; the input reads as it did. -/
def fnExactCaughtUpUptoRow : OpenClaim := { program := "ytmkknlmkiefbiaa", sum := "424dcfa64787a1e7a75d63b06d24970cc3cc2290fa7f6779f4e18da9b12a499d", func := "loop.example/g00388/laws.FnExactCaughtUp", spec := "fnExactCaughtUp", unfollowed := true, recurses := true, plainKeys := false, apart := false, narrowed := true }
def FnExactCaughtUpUptoSaid : Prop := fnExactCaughtUpUptoRow.holds Try.pinned (OpenSpec.upto fnExactCaughtUpSpec)

end Rows
end Go.Proofs.Ytmkknlmkiefbiaa
