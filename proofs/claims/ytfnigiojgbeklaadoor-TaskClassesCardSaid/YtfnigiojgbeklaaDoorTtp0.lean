import Derived.Test.YtfnigiojgbeklaaDoorTta
import Derived.KernelRfl
set_option linter.unusedSimpArgs false
set_option linter.unusedVariables false
set_option linter.unusedSectionVars false
open Go Go.Eng
namespace Go.Proofs.YtfnigiojgbeklaaDoor
set_option maxRecDepth 100000
theorem run0 : pieceOk Tb Dr 3000 3000 ⟨19, none⟩ C0 L0 L1 = true := by kernel_rfl
end Go.Proofs.YtfnigiojgbeklaaDoor
