/- impl.areBetween over a list of numbers. -/
import Derived.Test.YtmnnpkmjamhmcabBtw
import Derived.Test.YtmnnpkmjamhmcabRowC
namespace Go.Proofs.Ytmnnpkmjamhmcab
open Go.RowKit Go.PlainAid
set_option maxHeartbeats 800000

theorem areB_any (a : Option Addr) (n cap : Nat) (xs : List Int) (lo hi : Int) (w : World) (h : RO w.heap.size w a xs) (hn : xs.length = n) (hl : n ≤ 1048576) (b : Bool) (hb : b = true ↔ ∀ (i : Nat) (x : Int), xs[i]? = some x → lo ≤ x ∧ x ≤ hi) :
    Calls Try.prog 113 #[.slice a n cap, .int .i64 lo, .int .i64 hi] w fun e w' => e = .returned (.bool b) ∧ w = w' := by
  have HR := Lib.hid h
  have hlen := Lib.hid hn
  have HB := Lib.hid hb
  clear h hn hb
  go_enter Try.func113, Try.ntmps113
  go_wp2
  go_loop [8, 11] (fun _ iv => ∃ k : Nat, k ≤ n ∧ iv = .int .i64 k ∧ Hid (∀ (i : Nat) (x : Int), i < k → xs[i]? = some x → lo ≤ x ∧ x ≤ hi)) (fun _ iv => n - (intOf iv).toNat)
  case atStart => exact ⟨0, Nat.zero_le _, rfl, fun i x h _ => absurd h (by omega)⟩
  case round =>
    obtain ⟨k, hk, rfl, HK⟩ := hrel
    by_cases hlt : k < n
    · obtain ⟨x, hx⟩ : ∃ x, xs[k]? = some x := ⟨_, List.getElem?_eq_getElem (by have := hlen.out; omega)⟩
      obtain ⟨g, off, rfl, hg, hc⟩ := HR.out k x hx
      have HX := Lib.hid hx
      clear hx
      by_cases hin : lo ≤ x ∧ x ≤ hi
      · have HI : Hid (∀ w : World, Calls Try.prog 53 #[.int .i64 x, .int .i64 lo, .int .i64 hi] w fun e w' => e = .returned (.bool true) ∧ w = w') := fun w => btw64_yes x lo hi w hin.1 hin.2
        have HIN := Lib.hid hin
        clear hin
        go_wp2_with (first | (go_at_call 53; with_reducible refine (HI.out _).mono ?_; rintro e w1 ⟨rfl, rfl⟩) | go_in)
        go_round
        case rel =>
          refine ⟨k + 1, by omega, by go_num, fun i y hi hy => ?_⟩
          by_cases e : i = k
          · subst e
            rw [HX.out] at hy
            cases hy
            exact HIN.out
          · exact HK.out i y (by omega) hy
        case measure => first | (simp [intOf]; done) | (simp [intOf]; omega)
      · have HI : Hid (∀ w : World, Calls Try.prog 53 #[.int .i64 x, .int .i64 lo, .int .i64 hi] w fun e w' => e = .returned (.bool false) ∧ w = w') := fun w => btw64_no x lo hi w hin
        have hbf : b = false := by
          cases b
          · rfl
          · exact absurd (HB.out.1 rfl k x HX.out) hin
        subst hbf
        clear hin
        go_wp2_with (first | (go_at_call 53; with_reducible refine (HI.out _).mono ?_; rintro e w1 ⟨rfl, rfl⟩) | go_in)
        go_ret
        exact ⟨rfl, rfl⟩
    · obtain rfl : k = n := by omega
      have hbt : b = true := HB.out.2 fun i x hx => HK.out i x (by have := (List.getElem?_eq_some_iff.1 hx).1; have := hlen.out; omega) hx
      subst hbt
      go_wp2
      go_ret
      exact ⟨rfl, rfl⟩
end Go.Proofs.Ytmnnpkmjamhmcab
