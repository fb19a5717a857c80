/- Called at any arguments, FnExactValidNet returns true: ValidNet answers as its model. No condition. -/
import Derived.Test.YtmnnpkmjamhmcaaRows
import Derived.Test.YtmnnpkmjamhmcaaNtV
import Derived.WalkKit
import Derived.ProofKit
import Derived.OpenShut
import Derived.ShutString
import Derived.ChangeOld
import Derived.Below
import Derived.Lib.SmallJoins
import Derived.Deep.Matrix
namespace Go.Proofs.Ytmnnpkmjamhmcaa.fnExactValidNet
open Go.ChangeShapes Go.WideShapes Go.ChangeAt Go.RowKit Go.Joins
open Go.ChangeMaps (open_string shut_string)
set_option linter.unusedVariables false

theorem own : ownKnob Try.prog.godebug = none := by kernel_rfl
theorem laidOut : laidOutB Try.prog = true := by kernel_rfl

theorem walk (a0x : Int) (a0y : Option Addr) (len0y cap0y : Nat) (z0y : Nat → List Int) (w : World) (wa0x : (Lit.int .i64 a0x).wf = true) (wa0y : RR w.heap.size w a0y len0y z0y ∧ len0y ≤ maxLen ∧ ∀ d, (z0y d).length ≤ maxLen) :
    Calls Try.prog 3 #[.agg #[.int .i64 a0x, .slice a0y len0y cap0y]] w fun e w' => e = .returned (.bool true) ∧ Below w.heap.size w w' := by
  exact lawNet a0x a0y len0y cap0y z0y w wa0y

set_option maxRecDepth 100000 in
theorem lifted (os : Os) (started : os.Started) (H : Type) (enc : TypeId × Value → H) :
    ReturnsInHanded {} Try.checked os 3 .any (Rows.fnExactValidNetSpec.pre6 enc Try.prog Try.f3 Rows.fnExactValidNetRow.domain false) (Rows.fnExactValidNetSpec.post enc Try.prog Try.f3 false true false false) := by
  refine returnsInHanded_of_change (C := Try.checked) own started (by kernel_rfl) Try.func3
    (ChangeSpec.witness6 (enc := enc) (C := Try.checked) false ⟨#[], #[.agg #[.int .i64 0, .slice none 0 0]], []⟩ 8 (by kernel_rfl) (by kernel_rfl) (by kernel_rfl) (by kernel_rfl)) ?_
  intro W base args ds gs before hval0 hW hcnd _
  have hval : ∀ (j : Nat) t v, Try.f3.params[j]? = some t → args[j]? = some v → Value.okWide Try.prog W .any base t v := hval0
  have hW' := hW
  obtain ⟨p, q, hA0, hV, rfl, hfz, hnd⟩ := hW
  have hA : DataW.TrodAll enc Try.prog W 0 (fun _ => true) true Try.f3.params.toList args.toList ds p := hA0
  rw [Try.params3] at hA hval
  obtain ⟨v0, vs0, d0, ds0, p0, q0, hargs, rfl, rfl, h0, r0⟩ := trodAll_cons hA
  obtain ⟨rfl, rfl, rfl⟩ := trodAll_nil r0
  obtain rfl : args = #[v0] := by cases args; simp_all
  obtain ⟨rfl, rfl⟩ := trodVars_none hV
  have k0 := h0
  have lt0 : ∀ x ∈ p0, x.block < W.heap.size := by obtain ⟨m, hm⟩ := k0; exact DataW.trod_lt m _ _ _ hm
  obtain ⟨c0x, c0y, y0x, y0y, m0, rfl, rfl, rfl, q0x, q0y⟩ := open_agg2 Try.underlying24 (by kernel_rfl) (show Try.prog.cellsOf 24 = 2 by kernel_rfl) (hval 0 24 v0 rfl rfl) h0
  obtain ⟨a0x, ea0x, rfl, wa0x⟩ := DataW.trod_int Try.underlying2 q0x
  simp at ea0x
  subst ea0x
  obtain ⟨a0y, len0y, cap0y, z0y, ea0y, wa0y⟩ : ∃ (a : Option Addr) (len cap : Nat) (zs : Nat → List Int), c0y = .slice a len cap ∧ RR W.heap.size W a len zs ∧ len ≤ maxLen ∧ ∀ d, (zs d).length ≤ maxLen := by
    rcases Go.Deep.open_int_rows Try.underlying22 Try.underlying35 Try.underlying2 (by kernel_rfl) (by kernel_rfl) q0y with ⟨hcs, _⟩ | ⟨x, l, c, A, L, C, Z, hcs, _, hl, hm, _, hx⟩
    · simp at hcs
      exact ⟨none, 0, 0, fun _ => [], hcs, RR.zero, Nat.zero_le _, fun _ => Nat.zero_le _⟩
    · simp at hcs
      obtain ⟨zs, hz⟩ := RR.of_open x _ _ A L C Z hl hm hx
      exact ⟨some x, l, c, zs, hcs, hz⟩
  subst ea0y
  clear hA0 hval0
  refine (walk a0x a0y len0y cap0y z0y W wa0x wa0y).mono fun e W' ⟨he, bel⟩ => ?_
  subst he
  exact ⟨_, rfl, _, _, _, [], _, [], hW', trodAll_mk1 (shut_bool Try.underlying4 _), (trodAll_cons_mk (Below.trod laidOut (by kernel_rfl) (of_decide_eq_true (by kernel_rfl)) k0 bel lt0) trodAll_mk0), rfl, bel.frame _, fun h => by cases h⟩

theorem over : Rows.fnExactValidNetRow.holds Try.pinned (OpenSpec.ofChange Rows.fnExactValidNetSpec) :=
  OpenClaim.holds_of_wide 3 Try.f3 rfl rfl rfl rfl rfl rfl rfl ⟨rfl, rfl, rfl, rfl, rfl⟩ rfl rfl rfl rfl rfl (by kernel_rfl) Try.func3 (by kernel_rfl)
    (of_decide_eq_true (by kernel_rfl)) (by unfold Func.isWrapper; first | (rw [if_pos (by decide +kernel)]; kernel_rfl) | (rw [if_neg (by decide +kernel)]; exact ⟨rfl, rfl⟩))
    (fun os started H enc _ => lifted os started H enc)

theorem proved : Rows.FnExactValidNetSaid := over
#print axioms proved
end Go.Proofs.Ytmnnpkmjamhmcaa.fnExactValidNet
