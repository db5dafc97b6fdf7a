/-
  curve.Behind, slices.IndexFunc over a curve, curve.Delay: of curves that may not be the error; else what may come out, in new memory; the longest wait, or that there is none; nothing that was there before is otherwise. Conditions: the numbers lie in memory, and a slice is no longer than its room.
-/
import Derived.Test.YtnaooocmggnojaaDoorCv3
namespace Go.Proofs.YtnaooocmggnojaaDoor
open Go.RowKit Go.Extern.Stop Go.Stop Go.Extern

end Go.Proofs.YtnaooocmggnojaaDoor
