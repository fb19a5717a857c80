/- The laws of two fractions. -/
import Derived.Test.YtjbojamhnapkpabFrSpec
namespace Go.Proofs.Ytjbojamhnapkpab
open Go.RowKit Go.PlainAid
set_option maxHeartbeats 800000
end Go.Proofs.Ytjbojamhnapkpab
