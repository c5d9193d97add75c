/- Walks of package wire: Number, Piece. -/
import Derived.Test.YtiikjdjpodmpcaaGreatWiCat
namespace Go.Proofs.YtiikjdjpodmpcaaGreat
open Go.RowKit

theorem Below.step {w w1 w2 : World} {B1 : Nat} (h : Below w.heap.size w w1) (h2 : Below B1 w1 w2) (hB : w.heap.size ≤ B1) : Below w.heap.size w w2 := h.trans (h2.mono hB)

end Go.Proofs.YtiikjdjpodmpcaaGreat
