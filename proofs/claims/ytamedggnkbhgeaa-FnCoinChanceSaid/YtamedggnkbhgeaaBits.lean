/- Contracts: a text of few bits (impl.IsBits, spec.l01Bits, spec.IsBits). -/
import Derived.Test.YtamedggnkbhgeaaOnly
namespace Go.Proofs.Ytamedggnkbhgeaa
open Go.RowKit
set_option maxHeartbeats 400000

/-- few bits -/
def BitsP (s : ByteArray) : Prop := s.size ≤ 400 ∧ AllIn 48 49 s
theorem BitsP.len {s : ByteArray} (h : BitsP s) : s.size ≤ 400 := h.1
theorem BitsP.all {s : ByteArray} (h : BitsP s) : AllIn 48 49 s := h.2

theorem isBits_yes (s : ByteArray) (w : World) (h : BitsP s) :
    Calls Try.prog 61 #[.string s] w fun e w' => e = .returned (.bool true) ∧ Below w.heap.size w w' := by
  have h1 := h.len
  have HA := Lib.hid h.all
  clear h
  go_enter Try.func61, Try.ntmps61
  go_wp2_with (go_at_call 85; refine (hasOnly_yes s _ _ _ (by omega) HA.out).mono ?_; rintro e w1 ⟨rfl, hb⟩)
  go_ret
  exact ⟨rfl, hb⟩

theorem isBits_no (s : ByteArray) (w : World) (hm : s.size ≤ maxLen) (h : ¬ BitsP s) :
    Calls Try.prog 61 #[.string s] w fun e w' => e = .returned (.bool false) ∧ Below w.heap.size w w' := by
  unfold maxLen at hm
  by_cases h1 : s.size ≤ 400
  · have HA : Hid (¬ AllIn 48 49 s) := fun x => h ⟨h1, x⟩
    clear h
    go_enter Try.func61, Try.ntmps61
    go_wp2_with (go_at_call 85; refine (hasOnly_no s _ _ _ (by omega) HA.out).mono ?_; rintro e w1 ⟨rfl, hb⟩)
    go_ret
    exact ⟨rfl, hb⟩
  · clear h
    go_enter Try.func61, Try.ntmps61
    go_wp2
    go_ret
    exact ⟨rfl, Below.refl _ _⟩



theorem isBit_cases {c : Int} (h1 : 48 ≤ c) (h2 : c ≤ 49) : ((c != 48) = false) ∨ ((c != 48) = true ∧ (c != 49) = false) := by
  by_cases h : c = 48
  · left; simp [h]
  · right
    obtain rfl : c = 49 := by omega
    simp

/-- both ways on which the loop over the bytes ends by its own test -/
theorem l01Bits_all (s : ByteArray) (w : World) (b : Bool) (hm : s.size ≤ maxLen) (h : AllIn 48 49 s) (hd : decide ((s.size : Int) ≤ 400) = b) :
    Calls Try.prog 73 #[.string s] w fun e w' => e = .returned (.bool b) ∧ w = w' := by
  have HA := Lib.hid h
  have HD := Lib.hid hd
  clear h hd
  unfold maxLen at hm
  go_enter Try.func73, Try.ntmps73
  go_wp2
  go_loop [3] (fun i => ∃ k : Nat, k ≤ s.size ∧ i = .int .i64 k) (fun i => s.size - (intOf i).toNat)
  case atStart => exact ⟨0, Nat.zero_le _, rfl⟩
  case round =>
    obtain ⟨k, hk, rfl⟩ := hrel
    by_cases hlt : k < s.size
    · obtain ⟨g1, g2⟩ := HA.out k hlt
      rcases isBit_cases g1 g2 with e1 | ⟨e1, e2⟩
      all_goals
        go_wp2
        go_round
        case rel => exact ⟨k + 1, by omega, by go_num⟩
        case measure => simp [intOf]; omega
    · go_wp2
      go_ret
      exact ⟨congrArg (fun x => Ending.returned (.bool x)) HD.out, rfl⟩

theorem l01Bits_yes (s : ByteArray) (w : World) (h : BitsP s) :
    Calls Try.prog 73 #[.string s] w fun e w' => e = .returned (.bool true) ∧ w = w' :=
  l01Bits_all s w true (by have := h.len; unfold maxLen; omega) h.all (by have := h.len; simp; omega)

theorem l01Bits_no (s : ByteArray) (w : World) (hm : s.size ≤ maxLen) (h : ¬ BitsP s) :
    Calls Try.prog 73 #[.string s] w fun e w' => e = .returned (.bool false) ∧ w = w' := by
  by_cases hA : AllIn 48 49 s
  · exact l01Bits_all s w false hm hA (by
      have : ¬ s.size ≤ 400 := fun x => h ⟨x, hA⟩
      simp; omega)
  · obtain ⟨k, hk, hbad, hgood⟩ := AllIn.bad hA
    have HG := Lib.hid hgood
    have f1 : (((s[k]'hk).toNat : Int) != 48) = true := by simp; omega
    have f2 : (((s[k]'hk).toNat : Int) != 49) = true := by simp; omega
    clear h hbad hgood hA
    unfold maxLen at hm
    go_enter Try.func73, Try.ntmps73
    go_wp2
    go_loop [3] (fun i => ∃ j : Nat, j ≤ k ∧ i = .int .i64 j) (fun i => s.size - (intOf i).toNat)
    case atStart => exact ⟨0, Nat.zero_le _, rfl⟩
    case round =>
      obtain ⟨j, hj, rfl⟩ := hrel
      by_cases hlt : j < k
      · obtain ⟨g1, g2⟩ := HG.out j hlt
        rcases isBit_cases g1 g2 with e1 | ⟨e1, e2⟩
        all_goals
          go_wp2
          go_round
          case rel => exact ⟨j + 1, by omega, by go_num⟩
          case measure => simp [intOf]; omega
      · obtain rfl : j = k := by omega
        go_wp2
        go_ret
        exact ⟨rfl, rfl⟩

end Go.Proofs.Ytamedggnkbhgeaa
