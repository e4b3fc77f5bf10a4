/- Contracts of the specification's functions on lists of functions. Conditions: at most 1048577 functions, names of at most 1048576 bytes. -/
import Derived.Test.YtollijngiioonabProg
import Derived.Test.YtollijngiioonabSymA
import Derived.Test.YtollijngiioonabBl
namespace Go.Proofs.Ytollijngiioonab
set_option maxRecDepth 100000
open Go.RowKit

end Go.Proofs.Ytollijngiioonab
