/- smear, of layer 7's statements. -/
import Derived.Test.YtjcmajdaebpejaaDoorGSmr
namespace Go.Proofs.YtjcmajdaebpejaaDoor
open Go.RowKit

end Go.Proofs.YtjcmajdaebpejaaDoor
