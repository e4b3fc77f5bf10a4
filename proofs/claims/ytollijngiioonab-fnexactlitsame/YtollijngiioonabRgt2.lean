/- Whether a term is right, its size too, as the specification tells it. Conditions: terms of at most 549755813888 parts, at most 1048577 functions. -/
import Derived.Test.YtollijngiioonabRgt
namespace Go.Proofs.Ytollijngiioonab
set_option maxRecDepth 100000
open Go.RowKit

end Go.Proofs.Ytollijngiioonab
