/-
  DERIVED. GIVEN WITH THE SEED: THE CARDS: each row of YtmlmlmcmhpahpaaDoorRows.lean that lists a variable, with what it lists TIED to the program's text (the seventh form; the later family's looks); each row that meets fmt, with fmt's text TOLD by the authors' own Lean function (tested against real Go, not proved from fmt's source: count such statements apart). THE CARD IS WHAT COUNTS. Prove the row's statement (the work); the ties are given (YtmlmlmcmhpahpaaDoorTie.lean); close each card by the builder's one call (the guide's Derived/Test/ToyasCard.lean, 'card_holds'). Laid BY PROGRAM, IN A SANDBOX (cutbox-door.mjs). By AI agents, Wed Nov 11 2026. No macro, syntax, notation, axiom, sorry.
-/
import Derived.Test.YtmlmlmcmhpahpaaDoorRows
import GoSem.ClaimSeven
namespace Go.Proofs.YtmlmlmcmhpahpaaDoor
namespace Rows

/-- THE TIED CARD OF 'laws.FnExactOpText'. -/
def fnExactOpTextCard : Claim7 := { stood := { row := fnExactOpTextRow, standIns := [], harness := (true, "f6b0a6bb3a3c1f06fd360ea667a0add144043b39e44840155151b5bdaa8a5cac"), looks := false }, kinds := [], alts := [], laidByText := true, laidKinds := [.data, .data, .data, .sentinel], laidTests := true, laidLooks := .later }
def FnExactOpTextCardSaid : Prop := Claim7.holds Tryd.pinned (.plain (OpenSpec.ofChange fnExactOpTextSpec)) fnExactOpTextCard

/-- THE TIED CARD OF 'laws.FnExactReadOp'. -/
def fnExactReadOpCard : Claim7 := { stood := { row := fnExactReadOpRow, standIns := [], harness := (true, "f6b0a6bb3a3c1f06fd360ea667a0add144043b39e44840155151b5bdaa8a5cac"), looks := false }, kinds := [], alts := [], laidByText := true, laidKinds := [.sentinel, .sentinel], laidTests := true, laidLooks := .later }
def FnExactReadOpCardSaid : Prop := Claim7.holds Tryd.pinned (.plain (OpenSpec.ofChange fnExactReadOpSpec)) fnExactReadOpCard

/-- THE TIED CARD OF 'laws.FnExactRekeyText'. -/
def fnExactRekeyTextCard : Claim7 := { stood := { row := fnExactRekeyTextRow, standIns := [], harness := (true, "f6b0a6bb3a3c1f06fd360ea667a0add144043b39e44840155151b5bdaa8a5cac"), looks := false }, kinds := [], alts := [], laidByText := true, laidKinds := [.data, .data, .data], laidTests := true, laidLooks := .later }
def FnExactRekeyTextCardSaid : Prop := Claim7.holds Tryd.pinned (.plain (OpenSpec.ofChange fnExactRekeyTextSpec)) fnExactRekeyTextCard

/-- THE TIED CARD OF 'laws.FnExactReadRekey'. -/
def fnExactReadRekeyCard : Claim7 := { stood := { row := fnExactReadRekeyRow, standIns := [], harness := (true, "f6b0a6bb3a3c1f06fd360ea667a0add144043b39e44840155151b5bdaa8a5cac"), looks := false }, kinds := [], alts := [], laidByText := true, laidKinds := [.sentinel], laidTests := true, laidLooks := .later }
def FnExactReadRekeyCardSaid : Prop := Claim7.holds Tryd.pinned (.plain (OpenSpec.ofChange fnExactReadRekeySpec)) fnExactReadRekeyCard

/-- THE SECOND FORM's CARD OF 'laws.FnExactOpText'. -/
def fnExactOpTextUptoCard : Claim7 := { stood := { row := fnExactOpTextUptoRow, standIns := [], harness := (true, "f6b0a6bb3a3c1f06fd360ea667a0add144043b39e44840155151b5bdaa8a5cac"), looks := false }, kinds := [], alts := [], laidByText := true, laidKinds := [.data, .data, .data, .sentinel], laidTests := true, laidLooks := .later }
def FnExactOpTextUptoCardSaid : Prop := Claim7.holds Tryd.pinned (.plain (OpenSpec.upto fnExactOpTextSpec)) fnExactOpTextUptoCard

/-- THE SECOND FORM's CARD OF 'laws.FnExactReadOp'. -/
def fnExactReadOpUptoCard : Claim7 := { stood := { row := fnExactReadOpUptoRow, standIns := [], harness := (true, "f6b0a6bb3a3c1f06fd360ea667a0add144043b39e44840155151b5bdaa8a5cac"), looks := false }, kinds := [], alts := [], laidByText := true, laidKinds := [.sentinel, .sentinel], laidTests := true, laidLooks := .later }
def FnExactReadOpUptoCardSaid : Prop := Claim7.holds Tryd.pinned (.plain (OpenSpec.upto fnExactReadOpSpec)) fnExactReadOpUptoCard

/-- THE SECOND FORM's CARD OF 'laws.FnExactRekeyText'. -/
def fnExactRekeyTextUptoCard : Claim7 := { stood := { row := fnExactRekeyTextUptoRow, standIns := [], harness := (true, "f6b0a6bb3a3c1f06fd360ea667a0add144043b39e44840155151b5bdaa8a5cac"), looks := false }, kinds := [], alts := [], laidByText := true, laidKinds := [.data, .data, .data], laidTests := true, laidLooks := .later }
def FnExactRekeyTextUptoCardSaid : Prop := Claim7.holds Tryd.pinned (.plain (OpenSpec.upto fnExactRekeyTextSpec)) fnExactRekeyTextUptoCard

/-- THE SECOND FORM's CARD OF 'laws.FnExactReadRekey'. -/
def fnExactReadRekeyUptoCard : Claim7 := { stood := { row := fnExactReadRekeyUptoRow, standIns := [], harness := (true, "f6b0a6bb3a3c1f06fd360ea667a0add144043b39e44840155151b5bdaa8a5cac"), looks := false }, kinds := [], alts := [], laidByText := true, laidKinds := [.sentinel], laidTests := true, laidLooks := .later }
def FnExactReadRekeyUptoCardSaid : Prop := Claim7.holds Tryd.pinned (.plain (OpenSpec.upto fnExactReadRekeySpec)) fnExactReadRekeyUptoCard
end Rows
end Go.Proofs.YtmlmlmcmhpahpaaDoor
