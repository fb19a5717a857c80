/- Contracts of small functions of chapter 1 and of the model's: limits, bytes of a range, bits. -/
import Derived.Test.YtcfmcaheaifaoaaRows
import Derived.WalkKit
import Derived.WalkSpells
import Derived.WalkLawsBesides
import Derived.ProofKit
import Derived.Handy
import Derived.PlainAid
import Derived.Lib.Hide
import Derived.Laws.RangeAny
import Derived.LoopTactic
namespace Go.Proofs.Ytcfmcaheaifaoaa
open Go.RowKit
set_option maxHeartbeats 400000


theorem btw64_yes (a b c : Int) (w : World) (h : b ≤ a) (h2 : a ≤ c) : Calls Try.prog 39 #[.int .i64 a, .int .i64 b, .int .i64 c] w fun e w' => e = .returned (.bool true) ∧ w = w' := by
  go_enter Try.func39, Try.ntmps39
  go_wp2
  go_ret
  exact ⟨rfl, rfl⟩
theorem btw64_no (a b c : Int) (w : World) (h : ¬ (b ≤ a ∧ a ≤ c)) : Calls Try.prog 39 #[.int .i64 a, .int .i64 b, .int .i64 c] w fun e w' => e = .returned (.bool false) ∧ w = w' := by
  by_cases h1 : b ≤ a
  · have h2 : ¬ a ≤ c := fun x => h ⟨h1, x⟩
    clear h
    go_enter Try.func39, Try.ntmps39
    go_wp2
    go_ret
    exact ⟨rfl, rfl⟩
  · clear h
    go_enter Try.func39, Try.ntmps39
    go_wp2
    go_ret
    exact ⟨rfl, rfl⟩


theorem btw32_yes (a b c : Int) (w : World) (h : b ≤ a) (h2 : a ≤ c) : Calls Try.prog 55 #[.int .i32 a, .int .i32 b, .int .i32 c] w fun e w' => e = .returned (.bool true) ∧ w = w' := by
  go_enter Try.func55, Try.ntmps55
  go_wp2
  go_ret
  exact ⟨rfl, rfl⟩
theorem btw32_no (a b c : Int) (w : World) (h : ¬ (b ≤ a ∧ a ≤ c)) : Calls Try.prog 55 #[.int .i32 a, .int .i32 b, .int .i32 c] w fun e w' => e = .returned (.bool false) ∧ w = w' := by
  by_cases h1 : b ≤ a
  · have h2 : ¬ a ≤ c := fun x => h ⟨h1, x⟩
    clear h
    go_enter Try.func55, Try.ntmps55
    go_wp2
    go_ret
    exact ⟨rfl, rfl⟩
  · clear h
    go_enter Try.func55, Try.ntmps55
    go_wp2
    go_ret
    exact ⟨rfl, rfl⟩

/-- every byte lies between lo and hi -/
def AllIn (lo hi : Int) (s : ByteArray) : Prop := ∀ k, (h : k < s.size) → lo ≤ ((s[k]'h).toNat : Int) ∧ ((s[k]'h).toNat : Int) ≤ hi

theorem width_pos (s : ByteArray) (pos : Nat) (h : pos < s.size) : 1 ≤ (Utf8.decode s pos).2 := by
  by_cases ha : (s[pos]'h).toNat < 128
  · rw [decode_ascii s pos h ha]
    exact Nat.le_refl _
  · exact (decode_high s pos h (by omega)).2

theorem below_iter (w : World) (s : ByteArray) (pos : Nat) : Below w.heap.size w (w.iter s pos) := (Below.refl _ w).alloc (Nat.le_refl _) _

theorem hasOnly_yes (s : ByteArray) (lo hi : Int) (w : World) (hh : hi ≤ 127) (h : AllIn lo hi s) :
    Calls Try.prog 43 #[.string s, .int .i32 lo, .int .i32 hi] w fun e w' => e = .returned (.bool true) ∧ Below w.heap.size w w' := by
  have H := Lib.hid h
  clear h
  go_enter Try.func43, Try.ntmps43
  go_wp2
  go_loopw [8] (fun _ w' => ∃ pos : Nat, w' = w.iter s pos) (fun _ w' => s.size - w'.iterPos w.heap.size)
  case atStart => exact ⟨0, rfl⟩
  case round =>
    obtain ⟨pos, rfl⟩ := hrel
    by_cases hp : pos < s.size
    · obtain ⟨h1, h2⟩ := H.out pos hp
      have hnx : ∀ ty, (Instr.next (.pointer (some ⟨w.heap.size, 0, none⟩)) true ty).run Try.prog (w.iter s pos) = _ := fun ty => run_next_ascii w s pos ty hp (by omega)
      go_wp2_with (go_at_call 55; refine (btw32_yes _ _ _ _ h1 h2).mono ?_; rintro e w' ⟨rfl, rfl⟩)
      go_roundw
      case rel => exact ⟨pos + 1, rfl⟩
      case measure => simp; omega
    · have hnx : ∀ ty, (Instr.next (.pointer (some ⟨w.heap.size, 0, none⟩)) true ty).run Try.prog (w.iter s pos) = _ := fun ty => run_next_end w s pos ty hp
      go_wp2
      go_ret
      exact ⟨rfl, below_iter _ _ _⟩


theorem AllIn.bad {lo hi : Int} {s : ByteArray} (h : ¬ AllIn lo hi s) : ∃ k, ∃ hk : k < s.size, ¬ (lo ≤ ((s[k]'hk).toNat : Int) ∧ ((s[k]'hk).toNat : Int) ≤ hi) ∧ ∀ j, (hj : j < k) → lo ≤ ((s[j]'(by omega)).toNat : Int) ∧ ((s[j]'(by omega)).toNat : Int) ≤ hi := by
  have key : ∀ n, n ≤ s.size → (∀ k, (hk : k < n) → (hs : k < s.size) → lo ≤ ((s[k]'hs).toNat : Int) ∧ ((s[k]'hs).toNat : Int) ≤ hi) ∨ ∃ k, ∃ hk : k < s.size, ¬ (lo ≤ ((s[k]'hk).toNat : Int) ∧ ((s[k]'hk).toNat : Int) ≤ hi) ∧ ∀ j, (hj : j < k) → lo ≤ ((s[j]'(by omega)).toNat : Int) ∧ ((s[j]'(by omega)).toNat : Int) ≤ hi := by
    intro n
    induction n with
    | zero => exact fun _ => .inl (fun k hk => by omega)
    | succ n ih =>
      intro hn
      rcases ih (by omega) with g | g
      · by_cases hb : lo ≤ ((s[n]'(by omega)).toNat : Int) ∧ ((s[n]'(by omega)).toNat : Int) ≤ hi
        · refine .inl (fun k hk hs => ?_)
          by_cases e : k = n
          · subst e; exact hb
          · exact g k (by omega) hs
        · exact .inr ⟨n, by omega, hb, fun j hj => g j hj (by omega)⟩
      · exact .inr g
  rcases key s.size (Nat.le_refl _) with g | g
  · exact absurd (fun k hk => g k hk hk) h
  · exact g

theorem hasOnly_no (s : ByteArray) (lo hi : Int) (w : World) (hh : hi ≤ 127) (h : ¬ AllIn lo hi s) :
    Calls Try.prog 43 #[.string s, .int .i32 lo, .int .i32 hi] w fun e w' => e = .returned (.bool false) ∧ Below w.heap.size w w' := by
  obtain ⟨k, hk, hbad, hgood⟩ := AllIn.bad h
  have HB := Lib.hid hbad
  have HG := Lib.hid hgood
  clear h hbad hgood
  go_enter Try.func43, Try.ntmps43
  go_wp2
  go_loopw [8] (fun _ w' => ∃ pos : Nat, pos ≤ k ∧ w' = w.iter s pos) (fun _ w' => s.size - w'.iterPos w.heap.size)
  case atStart => exact ⟨0, Nat.zero_le _, rfl⟩
  case round =>
    obtain ⟨pos, hpk, rfl⟩ := hrel
    by_cases hp : pos < k
    · obtain ⟨h1, h2⟩ := HG.out pos hp
      have hnx : ∀ ty, (Instr.next (.pointer (some ⟨w.heap.size, 0, none⟩)) true ty).run Try.prog (w.iter s pos) = _ := fun ty => run_next_ascii w s pos ty (by omega) (by omega)
      go_wp2_with (go_at_call 55; refine (btw32_yes _ _ _ _ h1 h2).mono ?_; rintro e w' ⟨rfl, rfl⟩)
      go_roundw
      case rel => exact ⟨pos + 1, by omega, rfl⟩
      case measure => simp; omega
    · obtain rfl : pos = k := by omega
      have hout : ¬ (lo ≤ ((Utf8.decode s pos).1 : Int) ∧ ((Utf8.decode s pos).1 : Int) ≤ hi) := by
        by_cases ha : (s[pos]'hk).toNat < 128
        · rw [decode_ascii s pos hk ha]; exact HB.out
        · have := (decode_high s pos hk (by omega)).1
          omega
      have HO := Lib.hid hout
      clear hout
      have hnx : ∀ ty, (Instr.next (.pointer (some ⟨w.heap.size, 0, none⟩)) true ty).run Try.prog (w.iter s pos) = _ := fun ty => run_next_any w s pos ty hk
      go_wp2_with (go_at_call 55; refine (btw32_no _ _ _ _ HO.out).mono ?_; rintro e w' ⟨rfl, rfl⟩)
      go_ret
      exact ⟨rfl, below_iter _ _ _⟩

/-- few bits -/
def BitsP (s : ByteArray) : Prop := s.size ≤ 400 ∧ AllIn 48 49 s
theorem BitsP.len {s : ByteArray} (h : BitsP s) : s.size ≤ 400 := h.1
theorem BitsP.all {s : ByteArray} (h : BitsP s) : AllIn 48 49 s := h.2

theorem isBits_yes (s : ByteArray) (w : World) (h : BitsP s) :
    Calls Try.prog 27 #[.string s] w fun e w' => e = .returned (.bool true) ∧ Below w.heap.size w w' := by
  have h1 := h.len
  have HA := Lib.hid h.all
  clear h
  go_enter Try.func27, Try.ntmps27
  go_wp2_with (go_at_call 43; refine (hasOnly_yes s _ _ _ (by omega) HA.out).mono ?_; rintro e w1 ⟨rfl, hb⟩)
  go_ret
  exact ⟨rfl, hb⟩

theorem isBits_no (s : ByteArray) (w : World) (hm : s.size ≤ maxLen) (h : ¬ BitsP s) :
    Calls Try.prog 27 #[.string s] w fun e w' => e = .returned (.bool false) ∧ Below w.heap.size w w' := by
  unfold maxLen at hm
  by_cases h1 : s.size ≤ 400
  · have HA : Hid (¬ AllIn 48 49 s) := fun x => h ⟨h1, x⟩
    clear h
    go_enter Try.func27, Try.ntmps27
    go_wp2_with (go_at_call 43; refine (hasOnly_no s _ _ _ (by omega) HA.out).mono ?_; rintro e w1 ⟨rfl, hb⟩)
    go_ret
    exact ⟨rfl, hb⟩
  · clear h
    go_enter Try.func27, Try.ntmps27
    go_wp2
    go_ret
    exact ⟨rfl, Below.refl _ _⟩



theorem isBit_cases {c : Int} (h1 : 48 ≤ c) (h2 : c ≤ 49) : ((c != 48) = false) ∨ ((c != 48) = true ∧ (c != 49) = false) := by
  by_cases h : c = 48
  · left; simp [h]
  · right
    obtain rfl : c = 49 := by omega
    simp

/-- both ways on which the loop over the bytes ends by its own test -/
theorem l01Bits_all (s : ByteArray) (w : World) (b : Bool) (hm : s.size ≤ maxLen) (h : AllIn 48 49 s) (hd : decide ((s.size : Int) ≤ 400) = b) :
    Calls Try.prog 44 #[.string s] w fun e w' => e = .returned (.bool b) ∧ w = w' := by
  have HA := Lib.hid h
  have HD := Lib.hid hd
  clear h hd
  unfold maxLen at hm
  go_enter Try.func44, Try.ntmps44
  go_wp2
  go_loop [3] (fun i => ∃ k : Nat, k ≤ s.size ∧ i = .int .i64 k) (fun i => s.size - (intOf i).toNat)
  case atStart => exact ⟨0, Nat.zero_le _, rfl⟩
  case round =>
    obtain ⟨k, hk, rfl⟩ := hrel
    by_cases hlt : k < s.size
    · obtain ⟨g1, g2⟩ := HA.out k hlt
      rcases isBit_cases g1 g2 with e1 | ⟨e1, e2⟩
      all_goals
        go_wp2
        go_round
        case rel => exact ⟨k + 1, by omega, by go_num⟩
        case measure => simp [intOf]; omega
    · go_wp2
      go_ret
      exact ⟨congrArg (fun x => Ending.returned (.bool x)) HD.out, rfl⟩

theorem l01Bits_yes (s : ByteArray) (w : World) (h : BitsP s) :
    Calls Try.prog 44 #[.string s] w fun e w' => e = .returned (.bool true) ∧ w = w' :=
  l01Bits_all s w true (by have := h.len; unfold maxLen; omega) h.all (by have := h.len; simp; omega)

theorem l01Bits_no (s : ByteArray) (w : World) (hm : s.size ≤ maxLen) (h : ¬ BitsP s) :
    Calls Try.prog 44 #[.string s] w fun e w' => e = .returned (.bool false) ∧ w = w' := by
  by_cases hA : AllIn 48 49 s
  · exact l01Bits_all s w false hm hA (by
      have : ¬ s.size ≤ 400 := fun x => h ⟨x, hA⟩
      simp; omega)
  · obtain ⟨k, hk, hbad, hgood⟩ := AllIn.bad hA
    have HG := Lib.hid hgood
    have f1 : (((s[k]'hk).toNat : Int) != 48) = true := by simp; omega
    have f2 : (((s[k]'hk).toNat : Int) != 49) = true := by simp; omega
    clear h hbad hgood hA
    unfold maxLen at hm
    go_enter Try.func44, Try.ntmps44
    go_wp2
    go_loop [3] (fun i => ∃ j : Nat, j ≤ k ∧ i = .int .i64 j) (fun i => s.size - (intOf i).toNat)
    case atStart => exact ⟨0, Nat.zero_le _, rfl⟩
    case round =>
      obtain ⟨j, hj, rfl⟩ := hrel
      by_cases hlt : j < k
      · obtain ⟨g1, g2⟩ := HG.out j hlt
        rcases isBit_cases g1 g2 with e1 | ⟨e1, e2⟩
        all_goals
          go_wp2
          go_round
          case rel => exact ⟨j + 1, by omega, by go_num⟩
          case measure => simp [intOf]; omega
      · obtain rfl : j = k := by omega
        go_wp2
        go_ret
        exact ⟨rfl, rfl⟩

theorem specIsBits_yes (s : ByteArray) (w : World) (h : BitsP s) :
    Calls Try.prog 26 #[.string s] w fun e w' => e = .returned (.bool true) ∧ w = w' := by
  go_enter Try.func26, Try.ntmps26
  go_wp2_with (go_at_call 44; refine (l01Bits_yes s _ h).mono ?_; rintro e w' ⟨rfl, rfl⟩)
  go_ret
  exact ⟨rfl, rfl⟩
theorem specIsBits_no (s : ByteArray) (w : World) (hm : s.size ≤ maxLen) (h : ¬ BitsP s) :
    Calls Try.prog 26 #[.string s] w fun e w' => e = .returned (.bool false) ∧ w = w' := by
  go_enter Try.func26, Try.ntmps26
  go_wp2_with (go_at_call 44; refine (l01Bits_no s _ hm h).mono ?_; rintro e w' ⟨rfl, rfl⟩)
  go_ret
  exact ⟨rfl, rfl⟩

end Go.Proofs.Ytcfmcaheaifaoaa
