/- The laws of two fractions. -/
import Derived.Test.YtamedggnkbhgeabFrSpec
namespace Go.Proofs.Ytamedggnkbhgeab
open Go.RowKit Go.PlainAid
set_option maxHeartbeats 800000
end Go.Proofs.Ytamedggnkbhgeab
