/- math/bits.Mul64: the two words of a product. -/
import Derived.Test.YtmnnpkmjamhmcaaTimes
namespace Go.Proofs.Ytmnnpkmjamhmcaa
open Go.RowKit Go.PlainAid
set_option maxHeartbeats 400000

end Go.Proofs.Ytmnnpkmjamhmcaa
