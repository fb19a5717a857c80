/- Contract: all bytes of a text lie in a range (impl.hasOnly). -/
import Derived.Test.YtamedggnkbhgeaaBtw
namespace Go.Proofs.Ytamedggnkbhgeaa
open Go.RowKit
set_option maxHeartbeats 400000

/-- every byte lies between lo and hi -/
def AllIn (lo hi : Int) (s : ByteArray) : Prop := ∀ k, (h : k < s.size) → lo ≤ ((s[k]'h).toNat : Int) ∧ ((s[k]'h).toNat : Int) ≤ hi

theorem width_pos (s : ByteArray) (pos : Nat) (h : pos < s.size) : 1 ≤ (Utf8.decode s pos).2 := by
  by_cases ha : (s[pos]'h).toNat < 128
  · rw [decode_ascii s pos h ha]
    exact Nat.le_refl _
  · exact (decode_high s pos h (by omega)).2

theorem below_iter (w : World) (s : ByteArray) (pos : Nat) : Below w.heap.size w (w.iter s pos) := (Below.refl _ w).alloc (Nat.le_refl _) _

theorem hasOnly_yes (s : ByteArray) (lo hi : Int) (w : World) (hh : hi ≤ 127) (h : AllIn lo hi s) :
    Calls Try.prog 85 #[.string s, .int .i32 lo, .int .i32 hi] w fun e w' => e = .returned (.bool true) ∧ Below w.heap.size w w' := by
  have H := Lib.hid h
  clear h
  go_enter Try.func85, Try.ntmps85
  go_wp2
  go_loopw [8] (fun _ w' => ∃ pos : Nat, w' = w.iter s pos) (fun _ w' => s.size - w'.iterPos w.heap.size)
  case atStart => exact ⟨0, rfl⟩
  case round =>
    obtain ⟨pos, rfl⟩ := hrel
    by_cases hp : pos < s.size
    · obtain ⟨h1, h2⟩ := H.out pos hp
      have hnx : ∀ ty, (Instr.next (.pointer (some ⟨w.heap.size, 0, none⟩)) true ty).run Try.prog (w.iter s pos) = _ := fun ty => run_next_ascii w s pos ty hp (by omega)
      go_wp2_with (go_at_call 95; refine (btw32_yes _ _ _ _ h1 h2).mono ?_; rintro e w' ⟨rfl, rfl⟩)
      go_roundw
      case rel => exact ⟨pos + 1, rfl⟩
      case measure => simp; omega
    · have hnx : ∀ ty, (Instr.next (.pointer (some ⟨w.heap.size, 0, none⟩)) true ty).run Try.prog (w.iter s pos) = _ := fun ty => run_next_end w s pos ty hp
      go_wp2
      go_ret
      exact ⟨rfl, below_iter _ _ _⟩


theorem AllIn.bad {lo hi : Int} {s : ByteArray} (h : ¬ AllIn lo hi s) : ∃ k, ∃ hk : k < s.size, ¬ (lo ≤ ((s[k]'hk).toNat : Int) ∧ ((s[k]'hk).toNat : Int) ≤ hi) ∧ ∀ j, (hj : j < k) → lo ≤ ((s[j]'(by omega)).toNat : Int) ∧ ((s[j]'(by omega)).toNat : Int) ≤ hi := by
  have key : ∀ n, n ≤ s.size → (∀ k, (hk : k < n) → (hs : k < s.size) → lo ≤ ((s[k]'hs).toNat : Int) ∧ ((s[k]'hs).toNat : Int) ≤ hi) ∨ ∃ k, ∃ hk : k < s.size, ¬ (lo ≤ ((s[k]'hk).toNat : Int) ∧ ((s[k]'hk).toNat : Int) ≤ hi) ∧ ∀ j, (hj : j < k) → lo ≤ ((s[j]'(by omega)).toNat : Int) ∧ ((s[j]'(by omega)).toNat : Int) ≤ hi := by
    intro n
    induction n with
    | zero => exact fun _ => .inl (fun k hk => by omega)
    | succ n ih =>
      intro hn
      rcases ih (by omega) with g | g
      · by_cases hb : lo ≤ ((s[n]'(by omega)).toNat : Int) ∧ ((s[n]'(by omega)).toNat : Int) ≤ hi
        · refine .inl (fun k hk hs => ?_)
          by_cases e : k = n
          · subst e; exact hb
          · exact g k (by omega) hs
        · exact .inr ⟨n, by omega, hb, fun j hj => g j hj (by omega)⟩
      · exact .inr g
  rcases key s.size (Nat.le_refl _) with g | g
  · exact absurd (fun k hk => g k hk hk) h
  · exact g

theorem hasOnly_no (s : ByteArray) (lo hi : Int) (w : World) (hh : hi ≤ 127) (h : ¬ AllIn lo hi s) :
    Calls Try.prog 85 #[.string s, .int .i32 lo, .int .i32 hi] w fun e w' => e = .returned (.bool false) ∧ Below w.heap.size w w' := by
  obtain ⟨k, hk, hbad, hgood⟩ := AllIn.bad h
  have HB := Lib.hid hbad
  have HG := Lib.hid hgood
  clear h hbad hgood
  go_enter Try.func85, Try.ntmps85
  go_wp2
  go_loopw [8] (fun _ w' => ∃ pos : Nat, pos ≤ k ∧ w' = w.iter s pos) (fun _ w' => s.size - w'.iterPos w.heap.size)
  case atStart => exact ⟨0, Nat.zero_le _, rfl⟩
  case round =>
    obtain ⟨pos, hpk, rfl⟩ := hrel
    by_cases hp : pos < k
    · obtain ⟨h1, h2⟩ := HG.out pos hp
      have hnx : ∀ ty, (Instr.next (.pointer (some ⟨w.heap.size, 0, none⟩)) true ty).run Try.prog (w.iter s pos) = _ := fun ty => run_next_ascii w s pos ty (by omega) (by omega)
      go_wp2_with (go_at_call 95; refine (btw32_yes _ _ _ _ h1 h2).mono ?_; rintro e w' ⟨rfl, rfl⟩)
      go_roundw
      case rel => exact ⟨pos + 1, by omega, rfl⟩
      case measure => simp; omega
    · obtain rfl : pos = k := by omega
      have hout : ¬ (lo ≤ ((Utf8.decode s pos).1 : Int) ∧ ((Utf8.decode s pos).1 : Int) ≤ hi) := by
        by_cases ha : (s[pos]'hk).toNat < 128
        · rw [decode_ascii s pos hk ha]; exact HB.out
        · have := (decode_high s pos hk (by omega)).1
          omega
      have HO := Lib.hid hout
      clear hout
      have hnx : ∀ ty, (Instr.next (.pointer (some ⟨w.heap.size, 0, none⟩)) true ty).run Try.prog (w.iter s pos) = _ := fun ty => run_next_any w s pos ty hk
      go_wp2_with (go_at_call 95; refine (btw32_no _ _ _ _ HO.out).mono ?_; rintro e w' ⟨rfl, rfl⟩)
      go_ret
      exact ⟨rfl, below_iter _ _ _⟩

end Go.Proofs.Ytamedggnkbhgeaa
