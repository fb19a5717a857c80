/- Called at any arguments, FnExactUntemperWord returns true: UntemperWord answers as its model. -/
import Derived.Test.YtciofobedgmbjabDoorRows
import Derived.Test.YtciofobedgmbjabDoorAgg6
import Derived.Test.YtciofobedgmbjabDoorUn
import Derived.Test.YtciofobedgmbjabDoorTie
import Derived.Test.YtciofobedgmbjabDoorCards
import Derived.LaidMore
import Derived.OpenVars
import Derived.ChangeVars
import Derived.MakeChecks
import Derived.Lay
import Derived.Stop.Joined
import Derived.HandedShaped
import Derived.SevenTiedAt
import Derived.WalkKit
import Derived.ProofKit
import Derived.OpenShut
import Derived.ShutString
import Derived.ChangeOld
import Derived.Below
import Derived.Lib.SmallJoins
namespace Go.Proofs.YtciofobedgmbjabDoor.fnExactUntemperWord
open Go.ChangeShapes Go.WideShapes Go.ChangeAt Go.RowKit Go.Joins
open Go.ChangeMaps (open_string shut_string)
set_option linter.unusedVariables false

theorem own : ownKnob Tryd.prog.godebug = none := by kernel_rfl
theorem laidOut : laidOutB Tryd.prog = true := by kernel_rfl

theorem walk (a0x a0y a0z a0t a0u a0v : Int) (a1 : Int) (w : World) (wa0x : (Lit.int .i64 a0x).wf = true) (wa0y : (Lit.int .i64 a0y).wf = true) (wa0z : (Lit.int .i64 a0z).wf = true) (wa0t : (Lit.int .i64 a0t).wf = true) (wa0u : (Lit.int .i64 a0u).wf = true) (wa0v : (Lit.int .i64 a0v).wf = true) (w1 : (Lit.int .i64 a1).wf = true) (hL : laidMetH Tryd.prog Rows.fnExactUntemperWordRow.laid w) (hsh : w.ShapedOpen Tryd.prog) :
    Calls Tryd.prog 3 #[.agg #[.int .i64 a0x, .int .i64 a0y, .int .i64 a0z, .int .i64 a0t, .int .i64 a0u, .int .i64 a0v], .int .i64 a1] w fun e w' => e = .returned (.bool true) ∧ Below w.heap.size w w' := by
  have h := hL; rw [MakeChecks.laidMetH_plain _ _ _ (by kernel_rfl)] at h; exact (err_of_laid h).elim fun te he => he.elim fun pe he => lawUnt w.heap.size a0x a0y a0z a0t a0u a0v a1 te pe w (tz_laid h) (Nat.le_refl _) (World.block_lt_of_cell? w _ he) he

theorem door_met (os : Os) (args : Array Value) : laidMetH Tryd.prog Rows.fnExactUntemperWordRow.laid ((World.doorLaid Tryd.prog 72 os).forCall (fun _ _ => 0) ⟨#[], args, []⟩).memory := by
  exact laidMetH_of_parts3 (fuel := 8) (laidMet_of_run' 8 (by kernel_rfl) (by kernel_rfl)) (by kernel_rfl) (by kernel_rfl)

set_option maxRecDepth 100000 in
theorem lifted (os : Os) (started : os.Started) (H : Type) (enc : TypeId × Value → H) :
    ReturnsInHanded {} Tryd.checked os 3 .any (fun w args => (Rows.fnExactUntemperWordSpec.pre enc Tryd.prog Tryd.f3 [] false w args ∧ laidMetH Tryd.prog Rows.fnExactUntemperWordRow.laid w) ∧ sizedMet enc Tryd.prog Tryd.f3 (OpenSpec.ofChange Rows.fnExactUntemperWordSpec) false w args) (Rows.fnExactUntemperWordSpec.post enc Tryd.prog Tryd.f3 false true false false) := by
  refine returnsInHanded_of_calls (C := Tryd.checked) own started (by kernel_rfl)
    (ChangeSpec.witness_shaped (enc := enc) (C := Tryd.checked) (os := os) (X := fun w _ => laidMetH Tryd.prog Rows.fnExactUntemperWordRow.laid w) false (World.doorLaid Tryd.prog 72 os) #[.agg #[.int .i64 0, .int .i64 0, .int .i64 0, .int .i64 0, .int .i64 0, .int .i64 0], .int .i64 0] 8 rfl (World.shaped_of_RefB (by kernel_rfl) (by kernel_rfl)) (by kernel_rfl) (by kernel_rfl) (by kernel_rfl) (door_met os _)) ?_
  intro w0 tape inp _ hsh _ hok hpre hholds
  obtain ⟨_, _, _, fn', hfn', _, _, _, _, hvalO⟩ := hok
  obtain rfl : fn' = Tryd.f3 := Option.some.inj (hfn'.symm.trans Tryd.func3)
  obtain ⟨⟨⟨ds, gs, before, hw, _⟩, hx⟩, _⟩ := hpre
  have hW0 := DataW.Whole.of_heap (w' := w0.forCall tape inp) (by rfl) hw
  have hL : laidMetH Tryd.prog Rows.fnExactUntemperWordRow.laid (w0.forCall tape inp) := laidMetH.of_heap (by rfl) hx
  clear hx hw hholds
  suffices main : Calls Tryd.prog 3 inp.args (w0.forCall tape inp) fun e W' => ∃ v, e = .returned v ∧ Rows.fnExactUntemperWordSpec.post enc Tryd.prog Tryd.f3 false true false false (w0.forCall tape inp) inp.args v W' by
    refine main.mono fun e W' ⟨v, he, hp⟩ => ?_
    subst he
    exact ChangeSpec.post_blind hp
  generalize w0.forCall tape inp = W at hW0 hL hsh hvalO ⊢
  generalize hbase : w0.heap.size = base at hvalO
  obtain ⟨iv, args, im⟩ := inp
  simp only at hW0 hvalO ⊢
  have hval : ∀ (j : Nat) t v, Tryd.f3.params[j]? = some t → args[j]? = some v → Value.okWide Tryd.prog W .any base t v := hvalO
  have hW' := hW0
  obtain ⟨p, q, hA0, hV, rfl, hfz, hnd⟩ := hW0
  have hA : DataW.TrodAll enc Tryd.prog W 0 (fun _ => true) true Tryd.f3.params.toList args.toList ds p := hA0
  rw [Tryd.params3] at hA hval
  obtain ⟨v0, vs0, d0, ds0, p0, q0, hargs, rfl, rfl, h0, r0⟩ := trodAll_cons hA
  obtain ⟨v1, vs1, d1, ds1, p1, q1, rfl, rfl, rfl, h1, r1⟩ := trodAll_cons r0
  obtain ⟨rfl, rfl, rfl⟩ := trodAll_nil r1
  obtain rfl : args = #[v0, v1] := by cases args; simp_all
  have kV : DataW.TrodVars enc Tryd.prog W (fun _ => true) ["loop.example/g01121/impl.errContradiction"] gs q := hV
  obtain ⟨gq, tq, cq, fq, dq, pq, rfl, _, _, _, _, _⟩ := trodVars_one kV
  have k0 := h0
  have lt0 : ∀ x ∈ p0, x.block < W.heap.size := by obtain ⟨m, hm⟩ := k0; exact DataW.trod_lt m _ _ _ hm
  obtain ⟨c0x, c0y, c0z, c0t, c0u, c0v, y0x, y0y, y0z, y0t, y0u, y0v, m0, rfl, rfl, rfl, q0x, q0y, q0z, q0t, q0u, q0v⟩ := open_agg6 Tryd.underlying23 (by kernel_rfl) (show Tryd.prog.cellsOf 23 = 6 by kernel_rfl) (hval 0 23 v0 rfl rfl) h0
  obtain ⟨a0x, ea0x, rfl, wa0x⟩ := DataW.trod_int Tryd.underlying2 q0x
  simp at ea0x
  subst ea0x
  obtain ⟨a0y, ea0y, rfl, wa0y⟩ := DataW.trod_int Tryd.underlying2 q0y
  simp at ea0y
  subst ea0y
  obtain ⟨a0z, ea0z, rfl, wa0z⟩ := DataW.trod_int Tryd.underlying2 q0z
  simp at ea0z
  subst ea0z
  obtain ⟨a0t, ea0t, rfl, wa0t⟩ := DataW.trod_int Tryd.underlying2 q0t
  simp at ea0t
  subst ea0t
  obtain ⟨a0u, ea0u, rfl, wa0u⟩ := DataW.trod_int Tryd.underlying2 q0u
  simp at ea0u
  subst ea0u
  obtain ⟨a0v, ea0v, rfl, wa0v⟩ := DataW.trod_int Tryd.underlying2 q0v
  simp at ea0v
  subst ea0v
  have k1 := h1
  have lt1 : ∀ x ∈ p1, x.block < W.heap.size := by obtain ⟨m, hm⟩ := k1; exact DataW.trod_lt m _ _ _ hm
  obtain ⟨a1, rfl, rfl, rfl, w1⟩ := open_int Tryd.underlying2 (hval 1 2 v1 rfl rfl) h1
  clear hA0 hvalO
  refine (walk a0x a0y a0z a0t a0u a0v a1 W wa0x wa0y wa0z wa0t wa0u wa0v w1 hL hsh).mono fun e W' ⟨he, bel⟩ => ?_
  subst he
  exact ⟨_, rfl, _, _, _, [], _, _, hW', trodAll_mk1 (shut_bool Tryd.underlying4 _), (trodAll_cons_mk (Below.trod laidOut (by kernel_rfl) (of_decide_eq_true (by kernel_rfl)) k0 bel lt0) (trodAll_cons_mk (Below.trod laidOut (by kernel_rfl) (of_decide_eq_true (by kernel_rfl)) k1 bel lt1) trodAll_mk0)), Below.trodVars laidOut bel (by kernel_rfl) kV, bel.frame _, fun h => by cases h⟩

theorem over : Rows.fnExactUntemperWordRow.holds Tryd.pinned (OpenSpec.ofChange Rows.fnExactUntemperWordSpec) :=
  OpenClaim.holds_of_wide 3 Tryd.f3 rfl rfl rfl rfl rfl rfl rfl ⟨rfl, rfl, rfl, rfl, rfl⟩ rfl rfl rfl rfl rfl (by kernel_rfl) Tryd.func3 (by kernel_rfl)
    (of_decide_eq_true (by kernel_rfl)) (by unfold Func.isWrapper; first | (rw [if_pos (by decide +kernel)]; kernel_rfl) | (rw [if_neg (by decide +kernel)]; exact ⟨rfl, rfl⟩))
    (fun os started H enc _ => lifted os started H enc)

theorem proved : Rows.FnExactUntemperWordCardSaid :=
  Claim7.holds_tied_plain_at .later [] Rows.fnExactUntemperWordCard.laidKinds true Rows.fnExactUntemperWordCard.stood.harness Rows.fnExactUntemperWordCard.stood.looks
    over (fun _ h => by cases h) (by kernel_rfl) (fun _ h => by cases h) fnExactUntemperWord_row_tie rfl ⟨rfl, rfl⟩ (by kernel_rfl) rfl
    (fun f fn hf hfn => by
      obtain rfl : f = 3 := Option.some.inj ((show Tryd.prog.funcNamed "loop.example/g01121/laws.FnExactUntemperWord" = some 3 by kernel_rfl).symm.trans hf) |>.symm
      obtain rfl : fn = Tryd.f3 := (Option.some.inj (Tryd.func3.symm.trans hfn)).symm
      exact ⟨by kernel_rfl, fun j t ht => by
        rw [Tryd.params3] at ht
        have hm : t ∈ [23, 2] := by simpa using Array.mem_of_getElem? ht
        have hall : ([23, 2].all fun u => !Tryd.prog.wantsStandIn u) = true := by kernel_rfl
        exact (show Tryd.prog.wantsStandIn t = false by simpa using List.all_eq_true.1 hall t hm)⟩)
    (by kernel_rfl)
#print axioms proved
end Go.Proofs.YtciofobedgmbjabDoor.fnExactUntemperWord
