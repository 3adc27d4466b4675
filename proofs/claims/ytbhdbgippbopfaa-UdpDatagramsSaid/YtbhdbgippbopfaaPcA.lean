/- The law's theirs, same and twin; the document's twin. -/
import Derived.Test.YtbhdbgippbopfaaPbD
namespace Go.Proofs.Ytbhdbgippbopfaa
open Go.RowKit Go.Maps
set_option linter.unusedVariables false
end Go.Proofs.Ytbhdbgippbopfaa
