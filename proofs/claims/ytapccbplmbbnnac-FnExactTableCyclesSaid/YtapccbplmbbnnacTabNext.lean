/- One step of a register with a table: (impl.tableRegister).next, spec.l02Move. -/
import Derived.Test.YtapccbplmbbnnacCycR
namespace Go.Proofs.Ytapccbplmbbnnac
open Go.RowKit Go.PlainAid
set_option maxHeartbeats 800000

/-- the bit of a table at a state -/
def tbit (tb : ByteArray) (s : Nat) : Nat := if h : s < tb.size then (tb[s]'h).toNat - 48 else 0
/-- the state behind a step -/
def tnx (W : Nat) (tb : ByteArray) (s : Nat) : Nat := (s + tbit tb s * 2 ^ W) / 2
/-- a table of bits, one for each state -/
def TabP (W : Nat) (tb : ByteArray) : Prop := tb.size = 2 ^ W ∧ ∀ k, (h : k < tb.size) → (tb[k]'h).toNat = 48 ∨ (tb[k]'h).toNat = 49
theorem TabP.bit {W s : Nat} {tb : ByteArray} (h : TabP W tb) (hs : s < 2 ^ W) : ∃ hx : s < tb.size, (tb[s]'hx).toNat = 48 + tbit tb s ∧ tbit tb s ≤ 1 := by
  have hx : s < tb.size := by rw [h.1]; exact hs
  refine ⟨hx, ?_⟩
  unfold tbit
  rw [dif_pos hx]
  rcases h.2 s hx with e | e <;> omega
theorem tnx_lt {W s : Nat} {tb : ByteArray} (h : TabP W tb) (hs : s < 2 ^ W) : tnx W tb s < 2 ^ W := by
  obtain ⟨_, _, hb⟩ := h.bit hs
  have : tbit tb s * 2 ^ W ≤ 1 * 2 ^ W := Nat.mul_le_mul_right _ hb
  unfold tnx
  omega

theorem tabNext_any (W s : Nat) (tb : ByteArray) (w : World) (hW : W ≤ 16) (ht : TabP W tb) (hs : s < 2 ^ W) :
    Calls Try.prog 27 #[.agg #[.int .i64 W, .string tb], .int .i64 s] w fun e w' => e = .returned (.int .i64 (tnx W tb s)) ∧ Below w.heap.size w w' := by
  obtain ⟨hx, hb, hc⟩ := ht.bit hs
  obtain ⟨c, hcc⟩ : ∃ c, tbit tb s = c := ⟨_, rfl⟩
  have HM : Hid (∀ w : World, Calls Try.prog 48 #[.int .i64 s, .int .i64 W, .int .i64 c] w fun e w' => e = .returned (.int .i64 (tnx W tb s)) ∧ w = w') := fun w => by
    unfold tnx
    rw [hcc]
    exact moved_any s W c w hW hs (by omega)
  rw [hcc] at hb hc
  have h48 : IntKind.i64.wrap (IntKind.u8.wrap (48 + (c : Int) - 48)) = (c : Int) := by
    rw [show (48 + (c : Int) - 48) = (c : Int) by omega]
    rcases (show c = 0 ∨ c = 1 by omega) with rfl | rfl <;> rfl
  have x0 : (0 : Int) ≤ (s : Int) := by omega
  have x1 : (s : Int) < (tb.size : Int) := by omega
  clear hcc ht hs
  go_enter Try.func27, Try.ntmps27
  go_wp2
  go_quiet ((go_at_call 48; with_reducible exact quietR (HM.out _)))
  go_wp2
  go_ret
  exact ⟨rfl, below_drewN ((Below.refl _ _).alloc (Nat.le_refl _) _) _⟩
theorem l02Move_any (W s : Nat) (tb : ByteArray) (w : World) (hW : W ≤ 16) (ht : TabP W tb) (hs : s < 2 ^ W) :
    Calls Try.prog 23 #[.int .i64 W, .string tb, .int .i64 s] w fun e w' => e = .returned (.int .i64 (tnx W tb s)) ∧ w = w' := by
  obtain ⟨hx, hb, hc⟩ := ht.bit hs
  obtain ⟨c, hcc⟩ : ∃ c, tbit tb s = c := ⟨_, rfl⟩
  have htn : tnx W tb s = (s + c * 2 ^ W) / 2 := by unfold tnx; rw [hcc]
  rw [hcc] at hb hc
  have h48 : IntKind.i64.wrap (IntKind.u8.wrap (48 + (c : Int) - 48)) = (c : Int) := by
    rw [show (48 + (c : Int) - 48) = (c : Int) by omega]
    rcases (show c = 0 ∨ c = 1 by omega) with rfl | rfl <;> rfl
  have x0 : (0 : Int) ≤ (s : Int) := by omega
  have x1 : (s : Int) < (tb.size : Int) := by omega
  have h16 : s < 65536 := by
    have : 2 ^ W ≤ 2 ^ 16 := Nat.pow_le_pow_right (by omega) hW
    omega
  cases W with
  | zero =>
    have hz : tnx 0 tb s = 0 := by
      rw [htn]
      have : s = 0 := by simpa using hs
      rw [this]
      omega
    rw [hz]
    clear hcc ht hs htn hz h16
    go_enter Try.func23, Try.ntmps23
    go_wp2
    go_ret
    exact ⟨rfl, rfl⟩
  | succ V =>
    have e1 : (s + c * 2 ^ (V + 1)) / 2 = s / 2 + c * 2 ^ V := by
      rw [Nat.pow_succ, ← Nat.mul_assoc]
      omega
    have E := or_shl (s := s / 2) (c := c) (W := V) (by omega) (by rw [Nat.pow_succ] at hs; omega) hc
    rw [htn, e1, ← E, show ((s / 2 : Nat) : Int) = (s : Int) / 2 by omega]
    have v1 : ((V : Int) + 1 == 0) = false := by rw [beq_eq_false_iff_ne]; omega
    have v2 : V ≤ 15 := by omega
    have e48 : (48 + (c : Int) - 48) = (c : Int) := by omega
    clear hcc ht hs htn e1 E h16
    go_enter Try.func23, Try.ntmps23
    go_wp2
    go_ret
    exact ⟨rfl, rfl⟩
end Go.Proofs.Ytapccbplmbbnnac
