/- Exact quotients: the model's side. -/
import Derived.Test.YtcocidlijdfmmaaEqF
namespace Go.Proofs.Ytcocidlijdfmmaa.wh
open Go.RowKit Go.Pl

end Go.Proofs.Ytcocidlijdfmmaa.wh
