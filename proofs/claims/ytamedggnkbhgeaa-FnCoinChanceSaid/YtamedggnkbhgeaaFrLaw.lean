/- The laws of two fractions. -/
import Derived.Test.YtamedggnkbhgeaaFrSpec
namespace Go.Proofs.Ytamedggnkbhgeaa
open Go.RowKit Go.PlainAid
set_option maxHeartbeats 800000
end Go.Proofs.Ytamedggnkbhgeaa
