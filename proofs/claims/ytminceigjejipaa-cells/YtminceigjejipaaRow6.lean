import Derived.Test.YtminceigjejipaaRow4
import Derived.Test.YtminceigjejipaaRow2
import Derived.BigRegion
namespace Go.Proofs.Ytminceigjejipaa
open Go.RowKit

end Go.Proofs.Ytminceigjejipaa
