/-
  DERIVED. GIVEN WITH THE SEED: THE CARDS: each row of YtgedpjabjoodjaaDoorRows.lean that lists a variable, with what it lists TIED to the program's text (the seventh form; the later family's looks); each row that meets fmt, with fmt's text TOLD by the authors' own Lean function (tested against real Go, not proved from fmt's source: count such statements apart). THE CARD IS WHAT COUNTS. Prove the row's statement (the work); the ties are given (YtgedpjabjoodjaaDoorTie.lean); close each card by the builder's one call (the guide's Derived/Test/ToyasCard.lean, 'card_holds'). Laid BY PROGRAM, IN A SANDBOX (cutbox-door.mjs). By AI agents, Wed Nov 11 2026. No macro, syntax, notation, axiom, sorry.
-/
import Derived.Test.YtgedpjabjoodjaaDoorRows
import GoSem.ClaimSeven
namespace Go.Proofs.YtgedpjabjoodjaaDoor
namespace Rows

/-- THE TIED CARD OF 'laws.FnExactCreateFile'. -/
def fnExactCreateFileCard : Claim7 := { stood := { row := fnExactCreateFileRow, standIns := [], harness := (true, "320944df87480311276b47ae3db6ce24ec56534afa883f0a45c674ce0d4f34d3"), looks := true }, kinds := [], alts := [], laidByText := true, laidKinds := [.handle], laidTests := true, laidLooks := .later }
def FnExactCreateFileCardSaid : Prop := Claim7.holds Tryd.pinned (.plain (OpenSpec.ofChange fnExactCreateFileSpec)) fnExactCreateFileCard

/-- THE TIED CARD OF 'laws.FnExactAppendFile'. -/
def fnExactAppendFileCard : Claim7 := { stood := { row := fnExactAppendFileRow, standIns := [], harness := (true, "320944df87480311276b47ae3db6ce24ec56534afa883f0a45c674ce0d4f34d3"), looks := true }, kinds := [], alts := [], laidByText := true, laidKinds := [.handle], laidTests := true, laidLooks := .later }
def FnExactAppendFileCardSaid : Prop := Claim7.holds Tryd.pinned (.plain (OpenSpec.ofChange fnExactAppendFileSpec)) fnExactAppendFileCard

/-- THE TIED CARD OF 'laws.FnExactSyncFile'. -/
def fnExactSyncFileCard : Claim7 := { stood := { row := fnExactSyncFileRow, standIns := [], harness := (true, "320944df87480311276b47ae3db6ce24ec56534afa883f0a45c674ce0d4f34d3"), looks := true }, kinds := [], alts := [], laidByText := true, laidKinds := [.handle], laidTests := true, laidLooks := .later }
def FnExactSyncFileCardSaid : Prop := Claim7.holds Tryd.pinned (.plain (OpenSpec.ofChange fnExactSyncFileSpec)) fnExactSyncFileCard

/-- THE TIED CARD OF 'laws.FnExactRenameFile'. -/
def fnExactRenameFileCard : Claim7 := { stood := { row := fnExactRenameFileRow, standIns := [], harness := (true, "320944df87480311276b47ae3db6ce24ec56534afa883f0a45c674ce0d4f34d3"), looks := true }, kinds := [], alts := [], laidByText := true, laidKinds := [.handle], laidTests := true, laidLooks := .later }
def FnExactRenameFileCardSaid : Prop := Claim7.holds Tryd.pinned (.plain (OpenSpec.ofChange fnExactRenameFileSpec)) fnExactRenameFileCard

/-- THE TIED CARD OF 'laws.FnExactRemoveFile'. -/
def fnExactRemoveFileCard : Claim7 := { stood := { row := fnExactRemoveFileRow, standIns := [], harness := (true, "320944df87480311276b47ae3db6ce24ec56534afa883f0a45c674ce0d4f34d3"), looks := true }, kinds := [], alts := [], laidByText := true, laidKinds := [.handle], laidTests := true, laidLooks := .later }
def FnExactRemoveFileCardSaid : Prop := Claim7.holds Tryd.pinned (.plain (OpenSpec.ofChange fnExactRemoveFileSpec)) fnExactRemoveFileCard

/-- THE TIED CARD OF 'laws.FnExactReadFile'. -/
def fnExactReadFileCard : Claim7 := { stood := { row := fnExactReadFileRow, standIns := [], harness := (true, "320944df87480311276b47ae3db6ce24ec56534afa883f0a45c674ce0d4f34d3"), looks := true }, kinds := [], alts := [], laidByText := true, laidKinds := [.handle], laidTests := true, laidLooks := .later }
def FnExactReadFileCardSaid : Prop := Claim7.holds Tryd.pinned (.plain (OpenSpec.ofChange fnExactReadFileSpec)) fnExactReadFileCard

/-- THE TIED CARD OF 'laws.FnExactCrashFiles'. -/
def fnExactCrashFilesCard : Claim7 := { stood := { row := fnExactCrashFilesRow, standIns := [], harness := (true, "320944df87480311276b47ae3db6ce24ec56534afa883f0a45c674ce0d4f34d3"), looks := true }, kinds := [], alts := [], laidByText := true, laidKinds := [.handle], laidTests := true, laidLooks := .later }
def FnExactCrashFilesCardSaid : Prop := Claim7.holds Tryd.pinned (.plain (OpenSpec.ofChange fnExactCrashFilesSpec)) fnExactCrashFilesCard

/-- THE SECOND FORM's CARD OF 'laws.FnExactCreateFile'. -/
def fnExactCreateFileUptoCard : Claim7 := { stood := { row := fnExactCreateFileUptoRow, standIns := [], harness := (true, "320944df87480311276b47ae3db6ce24ec56534afa883f0a45c674ce0d4f34d3"), looks := true }, kinds := [], alts := [], laidByText := true, laidKinds := [.handle], laidTests := true, laidLooks := .later }
def FnExactCreateFileUptoCardSaid : Prop := Claim7.holds Tryd.pinned (.plain (OpenSpec.upto fnExactCreateFileSpec)) fnExactCreateFileUptoCard

/-- THE SECOND FORM's CARD OF 'laws.FnExactAppendFile'. -/
def fnExactAppendFileUptoCard : Claim7 := { stood := { row := fnExactAppendFileUptoRow, standIns := [], harness := (true, "320944df87480311276b47ae3db6ce24ec56534afa883f0a45c674ce0d4f34d3"), looks := true }, kinds := [], alts := [], laidByText := true, laidKinds := [.handle], laidTests := true, laidLooks := .later }
def FnExactAppendFileUptoCardSaid : Prop := Claim7.holds Tryd.pinned (.plain (OpenSpec.upto fnExactAppendFileSpec)) fnExactAppendFileUptoCard

/-- THE SECOND FORM's CARD OF 'laws.FnExactSyncFile'. -/
def fnExactSyncFileUptoCard : Claim7 := { stood := { row := fnExactSyncFileUptoRow, standIns := [], harness := (true, "320944df87480311276b47ae3db6ce24ec56534afa883f0a45c674ce0d4f34d3"), looks := true }, kinds := [], alts := [], laidByText := true, laidKinds := [.handle], laidTests := true, laidLooks := .later }
def FnExactSyncFileUptoCardSaid : Prop := Claim7.holds Tryd.pinned (.plain (OpenSpec.upto fnExactSyncFileSpec)) fnExactSyncFileUptoCard

/-- THE SECOND FORM's CARD OF 'laws.FnExactRenameFile'. -/
def fnExactRenameFileUptoCard : Claim7 := { stood := { row := fnExactRenameFileUptoRow, standIns := [], harness := (true, "320944df87480311276b47ae3db6ce24ec56534afa883f0a45c674ce0d4f34d3"), looks := true }, kinds := [], alts := [], laidByText := true, laidKinds := [.handle], laidTests := true, laidLooks := .later }
def FnExactRenameFileUptoCardSaid : Prop := Claim7.holds Tryd.pinned (.plain (OpenSpec.upto fnExactRenameFileSpec)) fnExactRenameFileUptoCard

/-- THE SECOND FORM's CARD OF 'laws.FnExactRemoveFile'. -/
def fnExactRemoveFileUptoCard : Claim7 := { stood := { row := fnExactRemoveFileUptoRow, standIns := [], harness := (true, "320944df87480311276b47ae3db6ce24ec56534afa883f0a45c674ce0d4f34d3"), looks := true }, kinds := [], alts := [], laidByText := true, laidKinds := [.handle], laidTests := true, laidLooks := .later }
def FnExactRemoveFileUptoCardSaid : Prop := Claim7.holds Tryd.pinned (.plain (OpenSpec.upto fnExactRemoveFileSpec)) fnExactRemoveFileUptoCard

/-- THE SECOND FORM's CARD OF 'laws.FnExactReadFile'. -/
def fnExactReadFileUptoCard : Claim7 := { stood := { row := fnExactReadFileUptoRow, standIns := [], harness := (true, "320944df87480311276b47ae3db6ce24ec56534afa883f0a45c674ce0d4f34d3"), looks := true }, kinds := [], alts := [], laidByText := true, laidKinds := [.handle], laidTests := true, laidLooks := .later }
def FnExactReadFileUptoCardSaid : Prop := Claim7.holds Tryd.pinned (.plain (OpenSpec.upto fnExactReadFileSpec)) fnExactReadFileUptoCard

/-- THE SECOND FORM's CARD OF 'laws.FnExactCrashFiles'. -/
def fnExactCrashFilesUptoCard : Claim7 := { stood := { row := fnExactCrashFilesUptoRow, standIns := [], harness := (true, "320944df87480311276b47ae3db6ce24ec56534afa883f0a45c674ce0d4f34d3"), looks := true }, kinds := [], alts := [], laidByText := true, laidKinds := [.handle], laidTests := true, laidLooks := .later }
def FnExactCrashFilesUptoCardSaid : Prop := Claim7.holds Tryd.pinned (.plain (OpenSpec.upto fnExactCrashFilesSpec)) fnExactCrashFilesUptoCard
end Rows
end Go.Proofs.YtgedpjabjoodjaaDoor
