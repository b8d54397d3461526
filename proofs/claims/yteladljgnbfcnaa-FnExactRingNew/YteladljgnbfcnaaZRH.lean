/- What is read, appended to a row of the call's own, empty or not; no condition but sizes. -/
import Derived.Test.YteladljgnbfcnaaZRB
import Derived.Laws.OwnMore
namespace Go.Proofs.Yteladljgnbfcnaa.Ap
open Go.RowKit P1 P9 Rc Rr Da

end Go.Proofs.Yteladljgnbfcnaa.Ap
