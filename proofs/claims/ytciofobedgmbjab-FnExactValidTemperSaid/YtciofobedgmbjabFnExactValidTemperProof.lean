/- Called at any arguments, FnExactValidTemper returns true: ValidTemper answers as its model. No condition. -/
import Derived.Test.YtciofobedgmbjabRows
import Derived.Test.YtciofobedgmbjabAgg6
import Derived.Test.YtciofobedgmbjabTmA
import Derived.WalkKit
import Derived.ProofKit
import Derived.OpenShut
import Derived.ShutString
import Derived.ChangeOld
import Derived.Below
import Derived.Lib.SmallJoins
namespace Go.Proofs.Ytciofobedgmbjab.fnExactValidTemper
open Go.ChangeShapes Go.WideShapes Go.ChangeAt Go.RowKit Go.Joins
open Go.ChangeMaps (open_string shut_string)
set_option linter.unusedVariables false

theorem own : ownKnob Try.prog.godebug = none := by kernel_rfl
theorem laidOut : laidOutB Try.prog = true := by kernel_rfl

theorem walk (a0x a0y a0z a0t a0u a0v : Int) (w : World) (wa0x : (Lit.int .i64 a0x).wf = true) (wa0y : (Lit.int .i64 a0y).wf = true) (wa0z : (Lit.int .i64 a0z).wf = true) (wa0t : (Lit.int .i64 a0t).wf = true) (wa0u : (Lit.int .i64 a0u).wf = true) (wa0v : (Lit.int .i64 a0v).wf = true) :
    Calls Try.prog 3 #[.agg #[.int .i64 a0x, .int .i64 a0y, .int .i64 a0z, .int .i64 a0t, .int .i64 a0u, .int .i64 a0v]] w fun e w' => e = .returned (.bool true) ∧ Below w.heap.size w w' := by
  exact lawValidT a0x a0y a0z a0t a0u a0v w

set_option maxRecDepth 100000 in
theorem lifted (os : Os) (started : os.Started) (H : Type) (enc : TypeId × Value → H) :
    ReturnsInHanded {} Try.checked os 3 .any (Rows.fnExactValidTemperSpec.pre6 enc Try.prog Try.f3 Rows.fnExactValidTemperRow.domain false) (Rows.fnExactValidTemperSpec.post enc Try.prog Try.f3 false true false false) := by
  refine returnsInHanded_of_change (C := Try.checked) own started (by kernel_rfl) Try.func3
    (ChangeSpec.witness6 (enc := enc) (C := Try.checked) false ⟨#[], #[.agg #[.int .i64 0, .int .i64 0, .int .i64 0, .int .i64 0, .int .i64 0, .int .i64 0]], []⟩ 8 (by kernel_rfl) (by kernel_rfl) (by kernel_rfl) (by kernel_rfl)) ?_
  intro W base args ds gs before hval0 hW hcnd _
  have hval : ∀ (j : Nat) t v, Try.f3.params[j]? = some t → args[j]? = some v → Value.okWide Try.prog W .any base t v := hval0
  have hW' := hW
  obtain ⟨p, q, hA0, hV, rfl, hfz, hnd⟩ := hW
  have hA : DataW.TrodAll enc Try.prog W 0 (fun _ => true) true Try.f3.params.toList args.toList ds p := hA0
  rw [Try.params3] at hA hval
  obtain ⟨v0, vs0, d0, ds0, p0, q0, hargs, rfl, rfl, h0, r0⟩ := trodAll_cons hA
  obtain ⟨rfl, rfl, rfl⟩ := trodAll_nil r0
  obtain rfl : args = #[v0] := by cases args; simp_all
  obtain ⟨rfl, rfl⟩ := trodVars_none hV
  have k0 := h0
  have lt0 : ∀ x ∈ p0, x.block < W.heap.size := by obtain ⟨m, hm⟩ := k0; exact DataW.trod_lt m _ _ _ hm
  obtain ⟨c0x, c0y, c0z, c0t, c0u, c0v, y0x, y0y, y0z, y0t, y0u, y0v, m0, rfl, rfl, rfl, q0x, q0y, q0z, q0t, q0u, q0v⟩ := open_agg6 Try.underlying23 (by kernel_rfl) (show Try.prog.cellsOf 23 = 6 by kernel_rfl) (hval 0 23 v0 rfl rfl) h0
  obtain ⟨a0x, ea0x, rfl, wa0x⟩ := DataW.trod_int Try.underlying2 q0x
  simp at ea0x
  subst ea0x
  obtain ⟨a0y, ea0y, rfl, wa0y⟩ := DataW.trod_int Try.underlying2 q0y
  simp at ea0y
  subst ea0y
  obtain ⟨a0z, ea0z, rfl, wa0z⟩ := DataW.trod_int Try.underlying2 q0z
  simp at ea0z
  subst ea0z
  obtain ⟨a0t, ea0t, rfl, wa0t⟩ := DataW.trod_int Try.underlying2 q0t
  simp at ea0t
  subst ea0t
  obtain ⟨a0u, ea0u, rfl, wa0u⟩ := DataW.trod_int Try.underlying2 q0u
  simp at ea0u
  subst ea0u
  obtain ⟨a0v, ea0v, rfl, wa0v⟩ := DataW.trod_int Try.underlying2 q0v
  simp at ea0v
  subst ea0v
  clear hA0 hval0
  refine (walk a0x a0y a0z a0t a0u a0v W wa0x wa0y wa0z wa0t wa0u wa0v).mono fun e W' ⟨he, bel⟩ => ?_
  subst he
  exact ⟨_, rfl, _, _, _, [], _, [], hW', trodAll_mk1 (shut_bool Try.underlying4 _), (trodAll_cons_mk (Below.trod laidOut (by kernel_rfl) (of_decide_eq_true (by kernel_rfl)) k0 bel lt0) trodAll_mk0), rfl, bel.frame _, fun h => by cases h⟩

theorem over : Rows.fnExactValidTemperRow.holds Try.pinned (OpenSpec.ofChange Rows.fnExactValidTemperSpec) :=
  OpenClaim.holds_of_wide 3 Try.f3 rfl rfl rfl rfl rfl rfl rfl ⟨rfl, rfl, rfl, rfl, rfl⟩ rfl rfl rfl rfl rfl (by kernel_rfl) Try.func3 (by kernel_rfl)
    (of_decide_eq_true (by kernel_rfl)) (by unfold Func.isWrapper; first | (rw [if_pos (by decide +kernel)]; kernel_rfl) | (rw [if_neg (by decide +kernel)]; exact ⟨rfl, rfl⟩))
    (fun os started H enc _ => lifted os started H enc)

theorem proved : Rows.FnExactValidTemperSaid := over
#print axioms proved
end Go.Proofs.Ytciofobedgmbjab.fnExactValidTemper
