/- Called at any arguments, FnExactIsFull returns true: IsFull answers as its model. No condition. -/
import Derived.Test.YtmapbaomfaplmaaRows
import Derived.Test.YtmapbaomfaplmaaConCyc
import Derived.WalkKit
import Derived.ProofKit
import Derived.OpenShut
import Derived.ShutString
import Derived.ChangeOld
import Derived.Below
import Derived.Lib.SmallJoins
namespace Go.Proofs.Ytmapbaomfaplmaa.fnExactIsFull
open Go.ChangeShapes Go.WideShapes Go.ChangeAt Go.RowKit Go.Joins
open Go.ChangeMaps (open_string shut_string)
set_option linter.unusedVariables false

theorem own : ownKnob Try.prog.godebug = none := by kernel_rfl
theorem laidOut : laidOutB Try.prog = true := by kernel_rfl

theorem walk (a0x a0y a0z : Int) (w : World) (wa0x : (Lit.int .i64 a0x).wf = true) (wa0y : (Lit.int .i64 a0y).wf = true) (wa0z : (Lit.int .i64 a0z).wf = true) :
    Calls Try.prog 10 #[.agg #[.int .i64 a0x, .int .i64 a0y, .int .i64 a0z]] w fun e w' => e = .returned (.bool true) ∧ Below w.heap.size w w' := by
  exact lawFullK a0x a0y a0z w

set_option maxRecDepth 100000 in
theorem lifted (os : Os) (started : os.Started) (H : Type) (enc : TypeId × Value → H) :
    ReturnsInHanded {} Try.checked os 10 .any (Rows.fnExactIsFullSpec.pre6 enc Try.prog Try.f10 Rows.fnExactIsFullRow.domain false) (Rows.fnExactIsFullSpec.post enc Try.prog Try.f10 false true false false) := by
  refine returnsInHanded_of_change (C := Try.checked) own started (by kernel_rfl) Try.func10
    (ChangeSpec.witness6 (enc := enc) (C := Try.checked) false ⟨#[], #[.agg #[.int .i64 0, .int .i64 0, .int .i64 0]], []⟩ 8 (by kernel_rfl) (by kernel_rfl) (by kernel_rfl) (by kernel_rfl)) ?_
  intro W base args ds gs before hval0 hW hcnd _
  have hval : ∀ (j : Nat) t v, Try.f10.params[j]? = some t → args[j]? = some v → Value.okWide Try.prog W .any base t v := hval0
  have hW' := hW
  obtain ⟨p, q, hA0, hV, rfl, hfz, hnd⟩ := hW
  have hA : DataW.TrodAll enc Try.prog W 0 (fun _ => true) true Try.f10.params.toList args.toList ds p := hA0
  rw [Try.params10] at hA hval
  obtain ⟨v0, vs0, d0, ds0, p0, q0, hargs, rfl, rfl, h0, r0⟩ := trodAll_cons hA
  obtain ⟨rfl, rfl, rfl⟩ := trodAll_nil r0
  obtain rfl : args = #[v0] := by cases args; simp_all
  obtain ⟨rfl, rfl⟩ := trodVars_none hV
  have k0 := h0
  have lt0 : ∀ x ∈ p0, x.block < W.heap.size := by obtain ⟨m, hm⟩ := k0; exact DataW.trod_lt m _ _ _ hm
  obtain ⟨c0x, c0y, c0z, y0x, y0y, y0z, m0, rfl, rfl, rfl, q0x, q0y, q0z⟩ := open_agg3 Try.underlying23 (by kernel_rfl) (show Try.prog.cellsOf 23 = 3 by kernel_rfl) (hval 0 23 v0 rfl rfl) h0
  obtain ⟨a0x, ea0x, rfl, wa0x⟩ := DataW.trod_int Try.underlying2 q0x
  simp at ea0x
  subst ea0x
  obtain ⟨a0y, ea0y, rfl, wa0y⟩ := DataW.trod_int Try.underlying2 q0y
  simp at ea0y
  subst ea0y
  obtain ⟨a0z, ea0z, rfl, wa0z⟩ := DataW.trod_int Try.underlying2 q0z
  simp at ea0z
  subst ea0z
  clear hA0 hval0
  refine (walk a0x a0y a0z W wa0x wa0y wa0z).mono fun e W' ⟨he, bel⟩ => ?_
  subst he
  exact ⟨_, rfl, _, _, _, [], _, [], hW', trodAll_mk1 (shut_bool Try.underlying4 _), (trodAll_cons_mk (Below.trod laidOut (by kernel_rfl) (of_decide_eq_true (by kernel_rfl)) k0 bel lt0) trodAll_mk0), rfl, bel.frame _, fun h => by cases h⟩

theorem over : Rows.fnExactIsFullRow.holds Try.pinned (OpenSpec.ofChange Rows.fnExactIsFullSpec) :=
  OpenClaim.holds_of_wide 10 Try.f10 rfl rfl rfl rfl rfl rfl rfl ⟨rfl, rfl, rfl, rfl, rfl⟩ rfl rfl rfl rfl rfl (by kernel_rfl) Try.func10 (by kernel_rfl)
    (of_decide_eq_true (by kernel_rfl)) (by unfold Func.isWrapper; first | (rw [if_pos (by decide +kernel)]; kernel_rfl) | (rw [if_neg (by decide +kernel)]; exact ⟨rfl, rfl⟩))
    (fun os started H enc _ => lifted os started H enc)

theorem proved : Rows.FnExactIsFullSaid := over
#print axioms proved
end Go.Proofs.Ytmapbaomfaplmaa.fnExactIsFull
