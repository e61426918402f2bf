/- errors.Is of errors that errors.New has made: true of the same, false of nil and of another; the world stays as it was. -/
import Derived.Test.YtohnddjijedfkabBase
import Derived.LaidEql
import Derived.Stop.Asserts
import Derived.RowKitTokens
namespace Go.Proofs.Ytohnddjijedfkab
open Go.RowKit Go.Extern.Stop Go.Stop Go.Extern
set_option linter.unusedVariables false
/-- what the model runs for '(rtype).Comparable' -/
def cmpF : Array Value → Sem Value := Extern.ReflectliteType.method fun t => do Extern.Rtype.noPackHeld "Comparable" t; pure (.bool (← typeInfo t).comparable)
end Go.Proofs.Ytohnddjijedfkab
