/- Registers: whether they are valid, their steps, their polynomials: impl and spec. -/
import Derived.Test.YtciofobedgmbjabDoorLawPower
import Derived.Deep.QuietTactic
import Derived.BigQuiet
import Derived.RegionTactic
import Derived.ChangeAlike
import Derived.WalkSmall
import Derived.Laws.Pointers
namespace Go.Proofs.YtciofobedgmbjabDoor
open Go.RowKit Go.PlainAid
set_option maxHeartbeats 400000

theorem drewN_two (W : World) (a b : Nat) : (W.drewN a).drewN b = W.drewN (a + b) := by simp [World.drewN, Nat.add_assoc]
theorem quietR {P : Program} {f : FuncId} {args : Array Value} {W : World} {n : Nat} {v : Value} (h : Calls P f args (W.drewN n) fun e w' => e = .returned v ∧ W.drewN n = w') :
    Calls P f args (W.drewN n) fun e w'' => e = .returned v ∧ ∃ m, w'' = W.drewN m := h.mono fun _ _ ⟨he, hw⟩ => ⟨he, n, hw.symm⟩
theorem quietD {P : Program} {f : FuncId} {args : Array Value} {W : World} {n : Nat} {v : Value} (h : Calls P f args (W.drewN n) fun e w' => e = .returned v ∧ ∃ m, w' = (W.drewN n).drewN m) :
    Calls P f args (W.drewN n) fun e w'' => e = .returned v ∧ ∃ m, w'' = W.drewN m := h.mono fun _ _ ⟨he, m, hw⟩ => ⟨he, n + m, by rw [hw, drewN_two]⟩
theorem keepR {B b : Nat} {w W w1 : World} {x y : Value} (ha : Below B w W) (hb : Below W.heap.size W w1) (hB : B ≤ b) (hlt : b < W.heap.size)
    (h0 : W.cell? ⟨b, 0, none⟩ = some x) (h1 : W.cell? ⟨b, 1, none⟩ = some y) :
    Below B w w1 ∧ b < w1.heap.size ∧ w1.cell? ⟨b, 0, none⟩ = some x ∧ w1.cell? ⟨b, 1, none⟩ = some y :=
  ⟨ha.trans (hb.mono (by omega)), Nat.lt_of_lt_of_le hlt hb.size, (hb.cell (p := ⟨b, 0, none⟩) hlt).trans h0, (hb.cell (p := ⟨b, 1, none⟩) hlt).trans h1⟩

/-- a number from 0 to less than 2 to the power of x -/
def InP (x s : Int) : Prop := 0 ≤ s ∧ s ≤ 2 ^ x.toNat - 1
/-- a valid register -/
def RegP (x t : Int) : Prop := (0 ≤ x ∧ x ≤ 16) ∧ InP x t
instance (x s : Int) : Decidable (InP x s) := by unfold InP; infer_instance
instance (x t : Int) : Decidable (RegP x t) := by unfold RegP; infer_instance
theorem width_of {x : Int} (h : 0 ≤ x ∧ x ≤ 16) : ∃ W : Nat, x = W ∧ W ≤ 16 := ⟨x.toNat, by omega, by omega⟩
theorem inP_nat {W : Nat} {P : Int} (hP : 2 ^ W = P) (s : Int) : InP (W : Int) s ↔ 0 ≤ s ∧ s ≤ P - 1 := by
  unfold InP
  rw [Int.toNat_natCast, hP]
theorem state_of {W : Nat} (hW : W ≤ 16) {s : Int} (h : InP (W : Int) s) : ∃ n : Nat, s = n ∧ n < 2 ^ W ∧ n < 65536 := by
  obtain ⟨h0, h1⟩ := h
  rw [Int.toNat_natCast] at h1
  have h2 : (2 : Nat) ^ W ≤ 2 ^ 16 := Nat.pow_le_pow_right (by omega) hW
  have e : ((2 ^ W : Nat) : Int) = (2 : Int) ^ W := by simp
  exact ⟨s.toNat, by omega, by omega, by omega⟩
/-- the state after a step -/
def nxt (W t s : Nat) : Nat := s / 2 + Pop.pcF 64 (t &&& s) % 2 * 2 ^ (W - 1)
theorem pc_zero : Pop.pcF 64 0 = 0 := by decide +kernel
theorem nxt_zero (t : Nat) : nxt 0 t 0 = 0 := by unfold nxt; rw [Nat.and_zero, pc_zero]
theorem nxt_lt {W t s : Nat} (hs : s < 2 ^ W) : nxt W t s < 2 ^ W := by
  unfold nxt
  rcases (show Pop.pcF 64 (t &&& s) % 2 = 0 ∨ Pop.pcF 64 (t &&& s) % 2 = 1 by omega) with h | h <;> rw [h]
  · omega
  · cases W with
    | zero => have : s = 0 := by simpa using hs
              subst this
              rw [Nat.and_zero, pc_zero] at h
              omega
    | succ W => rw [Nat.add_sub_cancel]; rw [Nat.pow_succ] at hs ⊢; omega

theorem or_shl {s c W : Nat} (hW : W ≤ 16) (hs : s < 2 ^ W) (hc : c ≤ 1) : bits .or .i64 (s : Int) (wrap64 ((c : Int) * 2 ^ W)) = ((s + c * 2 ^ W : Nat) : Int) := by
  have h1 := shl_in (a := c) (k := W) (A := 1) (by omega) (by omega)
  have h2 : 2 ^ W ≤ 2 ^ 16 := Nat.pow_le_pow_right (by omega) hW
  rw [cast_shl, wrap64_nat _ h1, i64_orN _ _ (by omega) h1, Nat.mul_comm c, or_above hs]
theorem step_val {V t s c : Nat} (hV : V ≤ 15) (hs : s < 2 ^ (V + 1)) (hc : Pop.pcF 64 (s &&& t) % 2 = c) : bits .or .i64 ((s : Int) / 2) (wrap64 ((c : Int) * 2 ^ V)) = (nxt (V + 1) t s : Nat) := by
  rw [Nat.pow_succ] at hs
  rw [show (s : Int) / 2 = ((s / 2 : Nat) : Int) by omega, or_shl (by omega) (by omega) (by omega)]
  unfold nxt
  rw [Nat.and_comm, hc, Nat.add_sub_cancel]
theorem moved_val {W t s c : Nat} (ht : t < 2 ^ W) (hc : Pop.pcF 64 (t &&& s) % 2 = c) : (s + c * 2 ^ W) / 2 = nxt W t s := by
  unfold nxt
  rw [hc]
  cases W with
  | zero =>
    have h0 : t = 0 := by simpa using ht
    subst h0
    rw [Nat.zero_and, pc_zero] at hc
    subst hc
    omega
  | succ V =>
    rw [Nat.add_sub_cancel, Nat.pow_succ, ← Nat.mul_assoc]
    omega

/-- a register and a state of it -/
def StateP (x t s : Int) : Prop := RegP x t ∧ InP x s
instance (x t s : Int) : Decidable (StateP x t s) := by unfold StateP; infer_instance
theorem StateP.nat {x t s : Int} (h : StateP x t s) : ∃ W T S : Nat, x = W ∧ t = T ∧ s = S ∧ W ≤ 16 ∧ T < 2 ^ W ∧ S < 2 ^ W ∧ T < 65536 ∧ S < 65536 := by
  obtain ⟨⟨hx, ht⟩, hs⟩ := h
  obtain ⟨W, rfl, hW⟩ := width_of hx
  obtain ⟨T, rfl, t1, t2⟩ := state_of hW ht
  obtain ⟨S, rfl, s1, s2⟩ := state_of hW hs
  exact ⟨W, T, S, rfl, rfl, rfl, hW, t1, s1, t2, s2⟩

end Go.Proofs.YtciofobedgmbjabDoor
