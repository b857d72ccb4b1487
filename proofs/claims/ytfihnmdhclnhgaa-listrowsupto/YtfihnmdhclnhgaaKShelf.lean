/- What the shelf's contracts of slices' functions ask of the program: laid, each fact by the kernel. -/
import Derived.Shelf.Lays
import Derived.Shelf.Lays2
import Derived.Test.YtfihnmdhclnhgaaOwn
namespace Go.Proofs.Ytfihnmdhclnhgaa
set_option maxRecDepth 20000
open Go.RowKit Go.Shelf
set_option maxRecDepth 1000000




end Go.Proofs.Ytfihnmdhclnhgaa
