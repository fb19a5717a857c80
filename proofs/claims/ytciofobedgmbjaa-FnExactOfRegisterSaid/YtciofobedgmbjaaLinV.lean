/- The law FnExactValidLinear. -/
import Derived.Test.YtciofobedgmbjaaLL8
namespace Go.Proofs.Ytciofobedgmbjaa
open Go.RowKit Go.PlainAid
set_option maxHeartbeats 800000

theorem lin_dec (x : Int) (xs : List Int) (o : Int) : ∃ b : Bool, b = true ↔ LinP x xs o := by
  by_cases h : LinP x xs o
  · exact ⟨true, fun _ => h, fun _ => rfl⟩
  · exact ⟨false, fun e => absurd e (by simp), fun k => absurd k h⟩
theorem lawVlin (x : Int) (a : Option Addr) (n cap : Nat) (zs : List Int) (o : Int) (w : World) (h : RowIn .i64 w a n zs) :
    Calls Try.prog 3 #[.agg #[.int .i64 x, .slice a n cap, .int .i64 o]] w fun e w' => e = .returned (.bool true) ∧ Below w.heap.size w w' :=
  lawValidLinear_any x a n cap zs o w h fun xs hn hl hr => by
    obtain ⟨b, hb⟩ := lin_dec x xs o
    exact lawValidLinear_core x a n cap xs o b w hr hn hl (fun W b' c hr' _ => specVlin_any x b' n c xs o b W hr' hn hl hb) (fun W b' c hr' _ => vlin_any x b' n c xs o b W hr' hn hl hb)
end Go.Proofs.Ytciofobedgmbjaa
