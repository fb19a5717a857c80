/- Laws over one text with a number (two numbers, a text) as the result: NormalForm, DegreeOf, BalanceOf, ImmunityOf, NonlinearityOf, NearestSum. -/
import Derived.Test.YtgpcacbjmjpdnabBtw
import Derived.Test.YtgpcacbjmjpdnabBits
namespace Go.Proofs.Ytgpcacbjmjpdnab
open Go.RowKit Go.PlainAid
set_option maxHeartbeats 800000

/-- a call with this result in new memory -/
def Gives (P : Program) (f : FuncId) (args : Array Value) (v : Value) : Prop := ∀ w : World, Calls P f args w fun e w' => e = .returned v ∧ Below w.heap.size w w'

theorem lawBalanceOf_all (s : ByteArray) (w : World) (hm : s.size ≤ maxLen) (H : Hid (∃ (v : Int) (b : Bool), Gives Try.prog 13 #[.string s] (.tuple #[.int .i64 v, .bool b]) ∧ Gives Try.prog 14 #[.string s] (.tuple #[.int .i64 v, .bool b]))) :
    Calls Try.prog 3 #[.string s] w fun e w' => e = .returned (.bool true) ∧ Below w.heap.size w w' := by
  unfold maxLen at hm
  by_cases hl : s.size ≤ 1048576
  · obtain ⟨v, b, HS, HI⟩ := H.out
    have HS := Lib.hid HS
    have HI := Lib.hid HI
    have hv : (v != v) = false := by simp
    have hbb : (b != b) = false := by simp
    have hbe : (b == b) = true := by simp
    go_enter Try.func3, Try.ntmps3
    go_wp2_with (first | (go_at_call 13; refine (HS.out _).mono ?_; rintro e w1 ⟨rfl, hb1⟩) | (go_at_call 14; refine (HI.out _).mono ?_; rintro e w2 ⟨rfl, hb2⟩))
    go_ret
    exact ⟨rfl, hb1.trans (hb2.mono hb1.size)⟩
  · go_enter Try.func3, Try.ntmps3
    go_wp2
    go_ret
    exact ⟨rfl, Below.refl _ _⟩
theorem lawImmunityOf_all (s : ByteArray) (w : World) (hm : s.size ≤ maxLen) (H : Hid (∃ (v : Int) (b : Bool), Gives Try.prog 15 #[.string s] (.tuple #[.int .i64 v, .bool b]) ∧ Gives Try.prog 16 #[.string s] (.tuple #[.int .i64 v, .bool b]))) :
    Calls Try.prog 4 #[.string s] w fun e w' => e = .returned (.bool true) ∧ Below w.heap.size w w' := by
  unfold maxLen at hm
  by_cases hl : s.size ≤ 1048576
  · obtain ⟨v, b, HS, HI⟩ := H.out
    have HS := Lib.hid HS
    have HI := Lib.hid HI
    have hv : (v != v) = false := by simp
    have hbb : (b != b) = false := by simp
    have hbe : (b == b) = true := by simp
    go_enter Try.func4, Try.ntmps4
    go_wp2_with (first | (go_at_call 15; refine (HS.out _).mono ?_; rintro e w1 ⟨rfl, hb1⟩) | (go_at_call 16; refine (HI.out _).mono ?_; rintro e w2 ⟨rfl, hb2⟩))
    go_ret
    exact ⟨rfl, hb1.trans (hb2.mono hb1.size)⟩
  · go_enter Try.func4, Try.ntmps4
    go_wp2
    go_ret
    exact ⟨rfl, Below.refl _ _⟩
theorem lawNonlinearityOf_all (s : ByteArray) (w : World) (hm : s.size ≤ maxLen) (H : Hid (∃ (v : Int) (b : Bool), Gives Try.prog 17 #[.string s] (.tuple #[.int .i64 v, .bool b]) ∧ Gives Try.prog 18 #[.string s] (.tuple #[.int .i64 v, .bool b]))) :
    Calls Try.prog 5 #[.string s] w fun e w' => e = .returned (.bool true) ∧ Below w.heap.size w w' := by
  unfold maxLen at hm
  by_cases hl : s.size ≤ 1048576
  · obtain ⟨v, b, HS, HI⟩ := H.out
    have HS := Lib.hid HS
    have HI := Lib.hid HI
    have hv : (v != v) = false := by simp
    have hbb : (b != b) = false := by simp
    have hbe : (b == b) = true := by simp
    go_enter Try.func5, Try.ntmps5
    go_wp2_with (first | (go_at_call 17; refine (HS.out _).mono ?_; rintro e w1 ⟨rfl, hb1⟩) | (go_at_call 18; refine (HI.out _).mono ?_; rintro e w2 ⟨rfl, hb2⟩))
    go_ret
    exact ⟨rfl, hb1.trans (hb2.mono hb1.size)⟩
  · go_enter Try.func5, Try.ntmps5
    go_wp2
    go_ret
    exact ⟨rfl, Below.refl _ _⟩
theorem lawNearestSum_all (s : ByteArray) (w : World) (hm : s.size ≤ maxLen) (H : Hid (∃ (v : Int) (u : Int) (b : Bool), Gives Try.prog 19 #[.string s] (.tuple #[.int .i64 v, .int .i64 u, .bool b]) ∧ Gives Try.prog 20 #[.string s] (.tuple #[.int .i64 v, .int .i64 u, .bool b]))) :
    Calls Try.prog 6 #[.string s] w fun e w' => e = .returned (.bool true) ∧ Below w.heap.size w w' := by
  unfold maxLen at hm
  by_cases hl : s.size ≤ 1048576
  · obtain ⟨v, u, b, HS, HI⟩ := H.out
    have HS := Lib.hid HS
    have HI := Lib.hid HI
    have hv : (v != v) = false := by simp
    have hu : (u != u) = false := by simp
    have hbb : (b != b) = false := by simp
    have hbe : (b == b) = true := by simp
    go_enter Try.func6, Try.ntmps6
    go_wp2_with (first | (go_at_call 19; refine (HS.out _).mono ?_; rintro e w1 ⟨rfl, hb1⟩) | (go_at_call 20; refine (HI.out _).mono ?_; rintro e w2 ⟨rfl, hb2⟩))
    go_ret
    exact ⟨rfl, hb1.trans (hb2.mono hb1.size)⟩
  · go_enter Try.func6, Try.ntmps6
    go_wp2
    go_ret
    exact ⟨rfl, Below.refl _ _⟩
end Go.Proofs.Ytgpcacbjmjpdnab
