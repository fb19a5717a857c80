/- The laws of two fractions. -/
import Derived.Test.YtdiaajhhpmellaaFrSpec
namespace Go.Proofs.Ytdiaajhhpmellaa
open Go.RowKit Go.PlainAid
set_option maxHeartbeats 800000
end Go.Proofs.Ytdiaajhhpmellaa
