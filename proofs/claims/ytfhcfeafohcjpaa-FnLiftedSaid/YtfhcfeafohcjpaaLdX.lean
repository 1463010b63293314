/- Exact long division: the program's side. -/
import Derived.Test.YtfhcfeafohcjpaaSt
import Derived.Test.YtfhcfeafohcjpaaFnP
import Derived.Test.YtfhcfeafohcjpaaLd
import Derived.Test.YtfhcfeafohcjpaaHr
import Derived.Deep.DeepCutAuto
import Derived.OwnWalk
namespace Go.Proofs.Ytfhcfeafohcjpaa.wh
open Go.RowKit Go.Pl

end Go.Proofs.Ytfhcfeafohcjpaa.wh
