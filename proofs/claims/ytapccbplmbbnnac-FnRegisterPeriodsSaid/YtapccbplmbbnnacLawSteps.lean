/- The law FnRegisterSteps. -/
import Derived.Test.YtapccbplmbbnnacJumpMath
import Derived.Test.YtapccbplmbbnnacRegDraw
namespace Go.Proofs.Ytapccbplmbbnnac
open Go.RowKit Go.PlainAid
set_option maxHeartbeats 800000

theorem StateP.of {W T S : Nat} (hW : W ≤ 16) (hT : T < 2 ^ W) (hS : S < 2 ^ W) : StateP W T S := by
  have e : ((2 ^ W : Nat) : Int) = (2 : Int) ^ W := by simp
  refine ⟨⟨⟨by omega, by omega⟩, ?_⟩, ?_⟩ <;> (unfold InP; rw [Int.toNat_natCast, ← e]; omega)
theorem lt_16 {W S : Nat} (hW : W ≤ 16) (h : S < 2 ^ W) : S < 65536 := by
  have : 2 ^ W ≤ 2 ^ 16 := Nat.pow_le_pow_right (by omega) hW
  omega
theorem jump_itr (W T S n : Nat) (w : World) (hW : W ≤ 16) (hT : T < 2 ^ W) (hS : S < 2 ^ W) (hn : n ≤ 1000000000000000000) :
    Calls Try.prog 19 #[.agg #[.int .i64 W, .int .i64 T], .int .i64 S, .int .i64 n] w fun e w' => e = .returned (.tuple #[.int .i64 (itr W T S n), .bool true]) ∧ Below w.heap.size w w' := by
  rw [← jmp_itr hW hT hS n]
  exact jump_yes W T S n w hW hT (lt_16 hW hS) hn (StateP.of hW hT hS)
theorem rbits_get (W T S : Nat) : ∀ N k, (h : k < (rbits W T S N).length) → (rbits W T S N)[k] = 48 + (itr W T S k : Int) % 2 := by
  intro N
  induction N with
  | zero => intro k h; simp [rbits] at h
  | succ N ih =>
    intro k h
    by_cases hk : k < N
    · have := ih k (by rw [rbits_length]; exact hk)
      simp only [rbits]
      rw [List.getElem_append_left (by rw [rbits_length]; exact hk)]
      exact this
    · rw [rbits_length] at h
      obtain rfl : k = N := by omega
      simp only [rbits]
      rw [List.getElem_append_right (by rw [rbits_length]; omega)]
      simp
/-- the bits of a register as a text -/
def TextOf (W T S N : Nat) (bs : ByteArray) : Prop := bs.size = N ∧ ∀ k, (h : k < bs.size) → ((bs[k]'h).toNat : Int) = 48 + (itr W T S k : Int) % 2
theorem text_of (W T S N : Nat) : TextOf W T S N (strOfNums (rbits W T S N)) := by
  refine ⟨by rw [strOfNums_size, rbits_length], fun k h => ?_⟩
  have hl : k < (rbits W T S N).length := by rw [strOfNums_size] at h; exact h
  have hg := rbits_get W T S N k hl
  have e : (strOfNums (rbits W T S N))[k]'h = UInt8.ofNat ((rbits W T S N)[k]).toNat := by
    show (strOfNums (rbits W T S N)).data[k]'_ = _
    simp [strOfNums]
  rw [e, hg, UInt8.toNat_ofNat']
  omega
theorem RegIn.drewM {w wr w1 : World} {g : Nat} {x t : Int} (h : RegIn w wr g x t) (hm : ∃ m, w1 = wr.drewN m) : RegIn w w1 g x t := by
  obtain ⟨m, rfl⟩ := hm
  exact h.drewN m

end Go.Proofs.Ytapccbplmbbnnac
