/- Lists that are short and whose numbers are small: impl.isList, spec.l01List. -/
import Derived.Test.YtpnifnpbolieoabDoorRowC
import Derived.Test.YtpnifnpbolieoabDoorLawRead
namespace Go.Proofs.YtpnifnpbolieoabDoor
open Go.RowKit Go.PlainAid
set_option maxHeartbeats 800000

/-- the first k numbers are small -/
def InV (xs : List Int) (k : Nat) : Prop := ∀ i x, i < k → xs[i]? = some x → Val x
theorem InV.next {xs : List Int} {x : Int} {k : Nat} (h : InV xs k) (hx : xs[k]? = some x) (h0 : Val x) : InV xs (k + 1) := fun i y hi hy => by
  by_cases e : i = k
  · subst e
    rw [hx] at hy
    cases hy
    exact h0
  · exact h i y (by omega) hy
def ListP (xs : List Int) : Prop := xs.length ≤ 64 ∧ InV xs xs.length
theorem ListP.get {xs : List Int} (h : ListP xs) {i : Nat} {x : Int} (hx : xs[i]? = some x) : Val x := h.2 i x (List.getElem?_eq_some_iff.1 hx).1 hx

theorem isList_yes (a : Option Addr) (n cap : Nat) (xs : List Int) (w : World) (h : RO w.heap.size w a xs) (hn : xs.length = n) (hO : ListP xs) :
    Calls Tryd.prog 54 #[.slice a n cap] w fun e w' => e = .returned (.bool true) ∧ w = w' := by
  have HR := Lib.hid h
  have hlen := Lib.hid hn
  have HO := Lib.hid hO
  have hn2 : n ≤ 64 := by have := hO.1; omega
  clear h hn hO
  go_enter Tryd.func54, Tryd.ntmps54
  go_wp2
  go_loop [4, 10] (fun _ iv => ∃ k : Nat, k ≤ n ∧ iv = .int .i64 k) (fun _ iv => n - (intOf iv).toNat)
  case atStart => exact ⟨0, Nat.zero_le _, rfl⟩
  case round =>
    obtain ⟨k, hk, rfl⟩ := hrel
    by_cases hlt : k < n
    · obtain ⟨x, hx⟩ : ∃ x, xs[k]? = some x := ⟨_, List.getElem?_eq_getElem (by have := hlen.out; omega)⟩
      obtain ⟨g, off, rfl, hg, hc⟩ := HR.out k x hx
      have hx2 := HO.out.get hx
      have HI : Hid (∀ w : World, Calls Tryd.prog 81 #[.int .i64 x, .int .i64 (-1000000000000000), .int .i64 1000000000000000] w fun e w' => e = .returned (.bool true) ∧ w = w') := fun w => btw64_yes _ _ _ _ hx2.1 hx2.2
      clear hx hx2
      go_wp2_with (first | (go_at_call 81; with_reducible refine (HI.out _).mono ?_; rintro e w1 ⟨rfl, rfl⟩) | go_in)
      go_round
      case rel => exact ⟨k + 1, by omega, by go_num⟩
      case measure => simp [intOf]; omega
    · obtain rfl : k = n := by omega
      go_wp2
      go_ret
      exact ⟨rfl, rfl⟩
theorem isList_no (a : Option Addr) (n cap : Nat) (xs : List Int) (w : World) (h : RO w.heap.size w a xs) (hn : xs.length = n) (hl : n ≤ 1048576) (hO : ¬ ListP xs) :
    Calls Tryd.prog 54 #[.slice a n cap] w fun e w' => e = .returned (.bool false) ∧ w = w' := by
  have HR := Lib.hid h
  have hlen := Lib.hid hn
  have HO := Lib.hid hO
  clear h hn hO
  by_cases hb : n ≤ 64
  · go_enter Tryd.func54, Tryd.ntmps54
    go_wp2
    go_loop [4, 10] (fun _ iv => ∃ k : Nat, k ≤ n ∧ iv = .int .i64 k ∧ Hid (InV xs k)) (fun _ iv => n - (intOf iv).toNat)
    case atStart => exact ⟨0, Nat.zero_le _, rfl, fun i x hi _ => by omega⟩
    case round =>
      obtain ⟨k, hk, rfl, HK⟩ := hrel
      have hlt : k < n := by
        apply Nat.lt_of_le_of_ne hk
        intro e
        exact HO.out ⟨by rw [hlen.out]; exact hb, by rw [hlen.out, ← e]; exact HK.out⟩
      obtain ⟨x, hx⟩ : ∃ x, xs[k]? = some x := ⟨_, List.getElem?_eq_getElem (by have := hlen.out; omega)⟩
      obtain ⟨g, off, rfl, hg, hc⟩ := HR.out k x hx
      by_cases hx2 : Val x
      · have HI : Hid (∀ w : World, Calls Tryd.prog 81 #[.int .i64 x, .int .i64 (-1000000000000000), .int .i64 1000000000000000] w fun e w' => e = .returned (.bool true) ∧ w = w') := fun w => btw64_yes _ _ _ _ hx2.1 hx2.2
        have HK2 := Lib.hid (HK.out.next hx hx2)
        clear hx hx2
        go_wp2_with (first | (go_at_call 81; with_reducible refine (HI.out _).mono ?_; rintro e w1 ⟨rfl, rfl⟩) | go_in)
        go_round
        case rel => exact ⟨k + 1, by omega, by go_num, HK2⟩
        case measure => simp [intOf]; omega
      · have HI : Hid (∀ w : World, Calls Tryd.prog 81 #[.int .i64 x, .int .i64 (-1000000000000000), .int .i64 1000000000000000] w fun e w' => e = .returned (.bool false) ∧ w = w') := fun w => btw64_no _ _ _ _ hx2
        clear hx hx2
        go_wp2_with (first | (go_at_call 81; with_reducible refine (HI.out _).mono ?_; rintro e w1 ⟨rfl, rfl⟩) | go_in)
        go_ret
        exact ⟨rfl, rfl⟩
  · have t1 : decide ((64 : Int) < (n : Int)) = true := by simp; omega
    clear hb
    go_enter Tryd.func54, Tryd.ntmps54
    go_wp2
    go_ret
    exact ⟨rfl, rfl⟩
theorem l01List_yes (a : Option Addr) (n cap : Nat) (xs : List Int) (w : World) (h : RO w.heap.size w a xs) (hn : xs.length = n) (hO : ListP xs) :
    Calls Tryd.prog 52 #[.slice a n cap] w fun e w' => e = .returned (.bool true) ∧ w = w' := by
  have HR := Lib.hid h
  have hlen := Lib.hid hn
  have HO := Lib.hid hO
  have hn2 : n ≤ 64 := by have := hO.1; omega
  clear h hn hO
  go_enter Tryd.func52, Tryd.ntmps52
  go_wp2
  go_loop [3] (fun iv => ∃ k : Nat, k ≤ n ∧ iv = .int .i64 k) (fun iv => n - (intOf iv).toNat)
  case atStart => exact ⟨0, Nat.zero_le _, rfl⟩
  case round =>
    obtain ⟨k, hk, rfl⟩ := hrel
    by_cases hlt : k < n
    · obtain ⟨x, hx⟩ : ∃ x, xs[k]? = some x := ⟨_, List.getElem?_eq_getElem (by have := hlen.out; omega)⟩
      obtain ⟨g, off, rfl, hg, hc⟩ := HR.out k x hx
      have hx2 := HO.out.get hx
      have HI : Hid (∀ w : World, Calls Tryd.prog 71 #[.int .i64 x, .int .i64 (-1000000000000000), .int .i64 1000000000000000] w fun e w' => e = .returned (.bool true) ∧ w = w') := fun w => l00In_yes _ _ _ _ hx2.1 hx2.2
      clear hx hx2
      go_wp2_with (go_at_call 71; with_reducible refine (HI.out _).mono ?_; rintro e w1 ⟨rfl, rfl⟩)
      go_round
      case rel => exact ⟨k + 1, by omega, by go_num⟩
      case measure => simp [intOf]; omega
    · obtain rfl : k = n := by omega
      have t2 : decide ((k : Int) ≤ 64) = true := by rw [decide_eq_true_iff]; omega
      go_wp2
      go_ret
      exact ⟨rfl, rfl⟩
theorem l01List_no (a : Option Addr) (n cap : Nat) (xs : List Int) (w : World) (h : RO w.heap.size w a xs) (hn : xs.length = n) (hl : n ≤ 1048576) (hO : ¬ ListP xs) :
    Calls Tryd.prog 52 #[.slice a n cap] w fun e w' => e = .returned (.bool false) ∧ w = w' := by
  have HR := Lib.hid h
  have hlen := Lib.hid hn
  have HO := Lib.hid hO
  clear h hn hO
  go_enter Tryd.func52, Tryd.ntmps52
  go_wp2
  go_loop [3] (fun iv => ∃ k : Nat, k ≤ n ∧ iv = .int .i64 k ∧ Hid (InV xs k)) (fun iv => n - (intOf iv).toNat)
  case atStart => exact ⟨0, Nat.zero_le _, rfl, fun i x hi _ => by omega⟩
  case round =>
    obtain ⟨k, hk, rfl, HK⟩ := hrel
    by_cases hlt : k < n
    · obtain ⟨x, hx⟩ : ∃ x, xs[k]? = some x := ⟨_, List.getElem?_eq_getElem (by have := hlen.out; omega)⟩
      obtain ⟨g, off, rfl, hg, hc⟩ := HR.out k x hx
      by_cases hx2 : Val x
      · have HI : Hid (∀ w : World, Calls Tryd.prog 71 #[.int .i64 x, .int .i64 (-1000000000000000), .int .i64 1000000000000000] w fun e w' => e = .returned (.bool true) ∧ w = w') := fun w => l00In_yes _ _ _ _ hx2.1 hx2.2
        have HK2 := Lib.hid (HK.out.next hx hx2)
        clear hx hx2
        go_wp2_with (go_at_call 71; with_reducible refine (HI.out _).mono ?_; rintro e w1 ⟨rfl, rfl⟩)
        go_round
        case rel => exact ⟨k + 1, by omega, by go_num, HK2⟩
        case measure => simp [intOf]; omega
      · have HI : Hid (∀ w : World, Calls Tryd.prog 71 #[.int .i64 x, .int .i64 (-1000000000000000), .int .i64 1000000000000000] w fun e w' => e = .returned (.bool false) ∧ w = w') := fun w => l00In_no _ _ _ _ hx2
        clear hx hx2
        go_wp2_with (go_at_call 71; with_reducible refine (HI.out _).mono ?_; rintro e w1 ⟨rfl, rfl⟩)
        go_ret
        exact ⟨rfl, rfl⟩
    · obtain rfl : k = n := by omega
      have hb : ¬ k ≤ 64 := fun e => HO.out ⟨by rw [hlen.out]; exact e, by rw [hlen.out]; exact HK.out⟩
      have t2 : decide ((k : Int) ≤ 64) = false := by rw [decide_eq_false_iff_not]; omega
      clear hb
      go_wp2
      go_ret
      exact ⟨rfl, rfl⟩
end Go.Proofs.YtpnifnpbolieoabDoor
