/- The document's twin. -/
import Derived.Test.YtbhdbgippbopfaaPcA
namespace Go.Proofs.Ytbhdbgippbopfaa
open Go.RowKit Go.Maps
set_option linter.unusedVariables false
end Go.Proofs.Ytbhdbgippbopfaa
