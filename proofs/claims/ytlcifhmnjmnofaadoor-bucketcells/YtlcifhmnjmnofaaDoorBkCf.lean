/-
  bucket.Conform: of a bucket that may not be, or of packets that may not be, the error; else, in new memory, which packets conform; nothing that was there before is otherwise. Conditions: errors.errorType holds its handle; the packets lie in memory.
-/
import Derived.Test.YtlcifhmnjmnofaaDoorEachB
namespace Go.Proofs.YtlcifhmnjmnofaaDoor
open Go.RowKit Go.Extern.Stop Go.Stop Go.Extern




end Go.Proofs.YtlcifhmnjmnofaaDoor
