/- The laws of two fractions. -/
import Derived.Test.YtmnnpkmjamhmcabFrSpec
namespace Go.Proofs.Ytmnnpkmjamhmcab
open Go.RowKit Go.PlainAid
set_option maxHeartbeats 800000
end Go.Proofs.Ytmnnpkmjamhmcab
