/-
  DERIVED. GIVEN WITH THE SEED: THE CARDS: each row of YtcldheidokdcpaaDoorRows.lean that lists a variable, with what it lists TIED to the program's text (the seventh form; the later family's looks); each row that meets fmt, with fmt's text TOLD by the authors' own Lean function (tested against real Go, not proved from fmt's source: count such statements apart). THE CARD IS WHAT COUNTS. Prove the row's statement (the work); the ties are given (YtcldheidokdcpaaDoorTie.lean); close each card by the builder's one call (the guide's Derived/Test/ToyasCard.lean, 'card_holds'). Laid BY PROGRAM, IN A SANDBOX (cutbox-door.mjs). By AI agents, Wed Nov 11 2026. No macro, syntax, notation, axiom, sorry.
-/
import Derived.Test.YtcldheidokdcpaaDoorRows
import GoSem.ClaimSeven
namespace Go.Proofs.YtcldheidokdcpaaDoor
namespace Rows

/-- THE TIED CARD OF 'laws.FnNames'. -/
def fnNamesCard : Claim7 := { stood := { row := fnNamesRow, standIns := [], harness := (true, "c6e32c78ee585613b73f73f7afe22d7e08bffa05bb941f74d93b916722d67681"), looks := false }, kinds := [], alts := [], laidByText := true, laidKinds := [.data, .data, .data], laidTests := true, laidLooks := .later }
def FnNamesCardSaid : Prop := Claim7.holds Tryd.pinned (.plain (OpenSpec.ofChange fnNamesSpec)) fnNamesCard

/-- THE TIED CARD OF 'laws.FnExactFreshName'. -/
def fnExactFreshNameCard : Claim7 := { stood := { row := fnExactFreshNameRow, standIns := [], harness := (true, "c6e32c78ee585613b73f73f7afe22d7e08bffa05bb941f74d93b916722d67681"), looks := false }, kinds := [], alts := [], laidByText := true, laidKinds := [.data, .data, .data], laidTests := true, laidLooks := .later }
def FnExactFreshNameCardSaid : Prop := Claim7.holds Tryd.pinned (.plain (OpenSpec.ofChange fnExactFreshNameSpec)) fnExactFreshNameCard

/-- THE SECOND FORM's CARD OF 'laws.FnNames'. -/
def fnNamesUptoCard : Claim7 := { stood := { row := fnNamesUptoRow, standIns := [], harness := (true, "c6e32c78ee585613b73f73f7afe22d7e08bffa05bb941f74d93b916722d67681"), looks := false }, kinds := [], alts := [], laidByText := true, laidKinds := [.data, .data, .data], laidTests := true, laidLooks := .later }
def FnNamesUptoCardSaid : Prop := Claim7.holds Tryd.pinned (.plain (OpenSpec.upto fnNamesSpec)) fnNamesUptoCard

/-- THE SECOND FORM's CARD OF 'laws.FnExactFreshName'. -/
def fnExactFreshNameUptoCard : Claim7 := { stood := { row := fnExactFreshNameUptoRow, standIns := [], harness := (true, "c6e32c78ee585613b73f73f7afe22d7e08bffa05bb941f74d93b916722d67681"), looks := false }, kinds := [], alts := [], laidByText := true, laidKinds := [.data, .data, .data], laidTests := true, laidLooks := .later }
def FnExactFreshNameUptoCardSaid : Prop := Claim7.holds Tryd.pinned (.plain (OpenSpec.upto fnExactFreshNameSpec)) fnExactFreshNameUptoCard
end Rows
end Go.Proofs.YtcldheidokdcpaaDoor
