/- What the listed variables give the walks: the table of powers of ten, and three error variables. Condition: the variables hold what the cards list. -/
import Derived.Test.YtlkfifnkdmmhnaaDoorRows
import Derived.Test.YtlkfifnkdmmhnaaDoorCards
import Derived.Test.YtlkfifnkdmmhnaaDoorTie
import Derived.Test.YtlkfifnkdmmhnaaDoorWalkG
import Derived.ProofKit
import Derived.LaidMore
import Derived.OpenShut
import Derived.Stop.Joined
import Derived.SevenTiedAt
import Derived.Lib.LaidTab
import Derived.Stop.LaidErr
namespace Go.Proofs.YtlkfifnkdmmhnaaDoor
open Go Go.ChangeShapes Go.WideShapes Go.ChangeAt Go.WideMaps Go.WideElems Go.RowKit
open Go.ChangeMaps (open_string shut_string)

theorem own : ownKnob Tryd.prog.godebug = none := by kernel_rfl
theorem gPow : Tryd.prog.globalNamed "internal/strconv.uint64pow10" = some 1 := by kernel_rfl
theorem gSyn : Tryd.prog.globalNamed "strconv.ErrSyntax" = some 2 := by kernel_rfl
theorem gRng : Tryd.prog.globalNamed "strconv.ErrRange" = some 3 := by kernel_rfl
theorem gPowType : (Tryd.prog.globals[1]?).map (·.type) = some 89 := by kernel_rfl
theorem gMalType : (Tryd.prog.globals[0]?).map (·.type) = some 53 := by kernel_rfl
theorem gSynType : (Tryd.prog.globals[2]?).map (·.type) = some 53 := by kernel_rfl
theorem gRngType : (Tryd.prog.globals[3]?).map (·.type) = some 53 := by kernel_rfl
theorem cells69 : Tryd.prog.cellsOf 69 = 1 := by kernel_rfl
theorem cells89 : Tryd.prog.cellsOf 89 = 20 := by kernel_rfl
theorem cells103 : Tryd.prog.cellsOf 103 = 1 := by kernel_rfl
theorem cells9 : Tryd.prog.cellsOf 9 = 1 := by kernel_rfl
theorem star : "*" ++ "errors.errorString" = "*errors.errorString" := by decide
theorem row101 (u : TypeId) (h : Tryd.prog.typeName? 3 u = some "*errors.errorString") : u = 101 :=
  typeName_ptr_named (nm := "errors.errorString") (by rw [star]; kernel_rfl) (by kernel_rfl) (by decide) u (by rw [star]; exact h)

/-- What the three parsing laws list. -/
theorem vars_of_laid {W : World} (h : laidMetH Tryd.prog Rows.fnExactParseNumberRow.laid W) : Vars W := by
  rw [MakeChecks.laidMetH_plain _ _ _ (by kernel_rfl)] at h
  have h2 := laidMet.tail (laidMet.tail h)
  have hp : Pow10 W := Lib.tabIs_of_head (rest := _) gPow gPowType Tryd.underlying89 Tryd.underlying69 cells69 cells89 h2
  have h3 := laidMet.tail h2
  obtain ⟨a0, s0, hr, -, -, -⟩ := laid_sentinel h3 gRng gRngType Tryd.underlying53 row101 Tryd.underlying101 Tryd.underlying103 rfl rfl Tryd.underlying9 cells103 cells9
  have h4 := laidMet.tail h3
  obtain ⟨a1, s1, hs, -, -, -⟩ := laid_sentinel h4 gSyn gSynType Tryd.underlying53 row101 Tryd.underlying101 Tryd.underlying103 rfl rfl Tryd.underlying9 cells103 cells9
  have h5 := laidMet.tail h4
  obtain ⟨a2, s2, hm, -, -, -⟩ := laid_sentinel h5 gMal gMalType Tryd.underlying53 row101 Tryd.underlying101 Tryd.underlying103 rfl rfl Tryd.underlying9 cells103 cells9
  exact ⟨hp, ⟨_, _, hs⟩, ⟨_, _, hr⟩, ⟨_, _, hm⟩⟩

theorem door_met (os : Os) (args : Array Value) : laidMetH Tryd.prog Rows.fnExactParseNumberRow.laid ((World.doorLaid Tryd.prog 91 os).forCall (fun _ _ => 0) ⟨#[], args, []⟩).memory :=
  laidMetH_of_parts3 (fuel := 8) (laidMet_of_run' 8 (by kernel_rfl) (by kernel_rfl)) (by kernel_rfl) (by kernel_rfl)
end Go.Proofs.YtlkfifnkdmmhnaaDoor
