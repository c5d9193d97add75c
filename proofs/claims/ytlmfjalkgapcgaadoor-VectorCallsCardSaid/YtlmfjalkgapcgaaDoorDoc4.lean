/- Walks of the document's answers: its readers. Piece. -/
import Derived.Test.YtlmfjalkgapcgaaDoorDoc3
namespace Go.Proofs.YtlmfjalkgapcgaaDoor
open Go.RowKit
set_option linter.unusedVariables false

end Go.Proofs.YtlmfjalkgapcgaaDoor
