/- The draws of texts and places: some text of the length that was asked, some numbers within their bounds; only the cursor is written. -/
import Derived.Test.YteladljgnbfcnaaZD
import Derived.Test.YteladljgnbfcnaaZA
namespace Go.Proofs.Yteladljgnbfcnaa.Cu
open Go.RowKit P1

end Go.Proofs.Yteladljgnbfcnaa.Cu
