/- Frames of exact laws over slices of slices (written by tools/genss.py). -/
import Derived.Test.YtmnnpkmjamhmcabFsA
namespace Go.Proofs.Ytmnnpkmjamhmcab
open Go.RowKit Go.PlainAid
set_option maxHeartbeats 1600000
set_option maxRecDepth 20000
end Go.Proofs.Ytmnnpkmjamhmcab
