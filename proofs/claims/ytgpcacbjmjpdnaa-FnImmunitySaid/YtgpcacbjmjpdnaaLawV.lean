/- Laws over one text with a number (two numbers, a text) as the result: NormalForm, DegreeOf, BalanceOf, ImmunityOf, NonlinearityOf, NearestSum. -/
import Derived.Test.YtgpcacbjmjpdnaaBtw
import Derived.Test.YtgpcacbjmjpdnaaBits
namespace Go.Proofs.Ytgpcacbjmjpdnaa
open Go.RowKit Go.PlainAid
set_option maxHeartbeats 800000

/-- a call with this result in new memory -/
def Gives (P : Program) (f : FuncId) (args : Array Value) (v : Value) : Prop := ∀ w : World, Calls P f args w fun e w' => e = .returned v ∧ Below w.heap.size w w'

theorem lawDegreeOf_all (s : ByteArray) (w : World) (hm : s.size ≤ maxLen) (H : Hid (∃ (v : Int) (b : Bool), Gives Try.prog 38 #[.string s] (.tuple #[.int .i64 v, .bool b]) ∧ Gives Try.prog 16 #[.string s] (.tuple #[.int .i64 v, .bool b]))) :
    Calls Try.prog 11 #[.string s] w fun e w' => e = .returned (.bool true) ∧ Below w.heap.size w w' := by
  unfold maxLen at hm
  by_cases hl : s.size ≤ 1048576
  · obtain ⟨v, b, HS, HI⟩ := H.out
    have HS := Lib.hid HS
    have HI := Lib.hid HI
    have hv : (v != v) = false := by simp
    have hbb : (b != b) = false := by simp
    have hbe : (b == b) = true := by simp
    go_enter Try.func11, Try.ntmps11
    go_wp2_with (first | (go_at_call 38; refine (HS.out _).mono ?_; rintro e w1 ⟨rfl, hb1⟩) | (go_at_call 16; refine (HI.out _).mono ?_; rintro e w2 ⟨rfl, hb2⟩))
    go_ret
    exact ⟨rfl, hb1.trans (hb2.mono hb1.size)⟩
  · go_enter Try.func11, Try.ntmps11
    go_wp2
    go_ret
    exact ⟨rfl, Below.refl _ _⟩
theorem lawNormalForm_all (s : ByteArray) (w : World) (hm : s.size ≤ maxLen) (H : Hid (∃ (v : ByteArray) (b : Bool), Gives Try.prog 37 #[.string s] (.tuple #[.string v, .bool b]) ∧ Gives Try.prog 15 #[.string s] (.tuple #[.string v, .bool b]))) :
    Calls Try.prog 10 #[.string s] w fun e w' => e = .returned (.bool true) ∧ Below w.heap.size w w' := by
  unfold maxLen at hm
  by_cases hl : s.size ≤ 1048576
  · obtain ⟨v, b, HS, HI⟩ := H.out
    have HS := Lib.hid HS
    have HI := Lib.hid HI
    have hv : (v.toList != v.toList) = false := by simp
    have hv2 : (v.toList == v.toList) = true := by simp
    have hbb : (b != b) = false := by simp
    have hbe : (b == b) = true := by simp
    go_enter Try.func10, Try.ntmps10
    go_wp2_with (first | (go_at_call 37; refine (HS.out _).mono ?_; rintro e w1 ⟨rfl, hb1⟩) | (go_at_call 15; refine (HI.out _).mono ?_; rintro e w2 ⟨rfl, hb2⟩))
    go_ret
    exact ⟨rfl, hb1.trans (hb2.mono hb1.size)⟩
  · go_enter Try.func10, Try.ntmps10
    go_wp2
    go_ret
    exact ⟨rfl, Below.refl _ _⟩
end Go.Proofs.Ytgpcacbjmjpdnaa
