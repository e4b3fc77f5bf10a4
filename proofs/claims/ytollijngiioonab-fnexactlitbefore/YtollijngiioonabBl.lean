/- Whether a function is blind, as the specification tells it. Conditions: at most 1048577 functions. -/
import Derived.Test.YtollijngiioonabProg
import Derived.Test.YtollijngiioonabSymA
namespace Go.Proofs.Ytollijngiioonab
set_option maxRecDepth 100000
open Go.RowKit

end Go.Proofs.Ytollijngiioonab
