/- What is no table: the functions of tables return zero values. -/
import Derived.Test.YtgpcacbjmjpdnabTabSpec
namespace Go.Proofs.Ytgpcacbjmjpdnab
open Go.RowKit Go.PlainAid
set_option maxHeartbeats 800000

theorem implBalanceOf_no (s : ByteArray) (w : World) (hm : s.size ≤ maxLen) (h : ¬ ∃ n, TabP n s) :
    Calls Try.prog 14 #[.string s] w fun e w' => e = .returned (.tuple #[.int .i64 0, .bool false]) ∧ Below w.heap.size w w' := by
  have HF : Hid (∀ W : World, Calls Try.prog 43 #[.string s] W fun e w' => e = .returned (.tuple #[.agg #[.int .i64 0, .int .u64 0], .bool false]) ∧ Below W.heap.size W w') := fun W => funOf_no s W hm h
  clear h
  go_enter Try.func14, Try.ntmps14
  go_wp2_with (go_at_call 43; refine (HF.out _).mono ?_; rintro e w1 ⟨rfl, hb⟩)
  go_ret2
  exact ⟨rfl, hb.alloc hb.size _⟩
theorem specBalanceOf_no (s : ByteArray) (w : World) (hm : s.size ≤ maxLen) (h : ¬ ∃ n, TabP n s) :
    Calls Try.prog 13 #[.string s] w fun e w' => e = .returned (.tuple #[.int .i64 0, .bool false]) ∧ w = w' := by
  have HF : Hid (∀ W : World, Calls Try.prog 41 #[.string s] W fun e w' => e = .returned (.bool false) ∧ W = w') := fun W => l04Table_no s W hm h
  clear h
  go_enter Try.func13, Try.ntmps13
  go_wp2_with (go_at_call 41; refine (HF.out _).mono ?_; rintro e w1 ⟨rfl, rfl⟩)
  go_ret2
  exact ⟨rfl, rfl⟩
theorem implImmunityOf_no (s : ByteArray) (w : World) (hm : s.size ≤ maxLen) (h : ¬ ∃ n, TabP n s) :
    Calls Try.prog 16 #[.string s] w fun e w' => e = .returned (.tuple #[.int .i64 0, .bool false]) ∧ Below w.heap.size w w' := by
  have HF : Hid (∀ W : World, Calls Try.prog 43 #[.string s] W fun e w' => e = .returned (.tuple #[.agg #[.int .i64 0, .int .u64 0], .bool false]) ∧ Below W.heap.size W w') := fun W => funOf_no s W hm h
  clear h
  go_enter Try.func16, Try.ntmps16
  go_wp2_with (go_at_call 43; refine (HF.out _).mono ?_; rintro e w1 ⟨rfl, hb⟩)
  go_ret2
  exact ⟨rfl, hb.alloc hb.size _⟩
theorem specImmunityOf_no (s : ByteArray) (w : World) (hm : s.size ≤ maxLen) (h : ¬ ∃ n, TabP n s) :
    Calls Try.prog 15 #[.string s] w fun e w' => e = .returned (.tuple #[.int .i64 0, .bool false]) ∧ w = w' := by
  have HF : Hid (∀ W : World, Calls Try.prog 41 #[.string s] W fun e w' => e = .returned (.bool false) ∧ W = w') := fun W => l04Table_no s W hm h
  clear h
  go_enter Try.func15, Try.ntmps15
  go_wp2_with (go_at_call 41; refine (HF.out _).mono ?_; rintro e w1 ⟨rfl, rfl⟩)
  go_ret2
  exact ⟨rfl, rfl⟩
theorem implNonlinearityOf_no (s : ByteArray) (w : World) (hm : s.size ≤ maxLen) (h : ¬ ∃ n, TabP n s) :
    Calls Try.prog 18 #[.string s] w fun e w' => e = .returned (.tuple #[.int .i64 0, .bool false]) ∧ Below w.heap.size w w' := by
  have HF : Hid (∀ W : World, Calls Try.prog 43 #[.string s] W fun e w' => e = .returned (.tuple #[.agg #[.int .i64 0, .int .u64 0], .bool false]) ∧ Below W.heap.size W w') := fun W => funOf_no s W hm h
  clear h
  go_enter Try.func18, Try.ntmps18
  go_wp2_with (go_at_call 43; refine (HF.out _).mono ?_; rintro e w1 ⟨rfl, hb⟩)
  go_ret2
  exact ⟨rfl, hb.alloc hb.size _⟩
theorem specNonlinearityOf_no (s : ByteArray) (w : World) (hm : s.size ≤ maxLen) (h : ¬ ∃ n, TabP n s) :
    Calls Try.prog 17 #[.string s] w fun e w' => e = .returned (.tuple #[.int .i64 0, .bool false]) ∧ w = w' := by
  have HF : Hid (∀ W : World, Calls Try.prog 41 #[.string s] W fun e w' => e = .returned (.bool false) ∧ W = w') := fun W => l04Table_no s W hm h
  clear h
  go_enter Try.func17, Try.ntmps17
  go_wp2_with (go_at_call 41; refine (HF.out _).mono ?_; rintro e w1 ⟨rfl, rfl⟩)
  go_ret2
  exact ⟨rfl, rfl⟩
theorem implNearestSum_no (s : ByteArray) (w : World) (hm : s.size ≤ maxLen) (h : ¬ ∃ n, TabP n s) :
    Calls Try.prog 20 #[.string s] w fun e w' => e = .returned (.tuple #[.int .i64 0, .int .i64 0, .bool false]) ∧ Below w.heap.size w w' := by
  have HF : Hid (∀ W : World, Calls Try.prog 43 #[.string s] W fun e w' => e = .returned (.tuple #[.agg #[.int .i64 0, .int .u64 0], .bool false]) ∧ Below W.heap.size W w') := fun W => funOf_no s W hm h
  clear h
  go_enter Try.func20, Try.ntmps20
  go_wp2_with (go_at_call 43; refine (HF.out _).mono ?_; rintro e w1 ⟨rfl, hb⟩)
  go_ret3
  exact ⟨rfl, hb.alloc hb.size _⟩
theorem specNearestSum_no (s : ByteArray) (w : World) (hm : s.size ≤ maxLen) (h : ¬ ∃ n, TabP n s) :
    Calls Try.prog 19 #[.string s] w fun e w' => e = .returned (.tuple #[.int .i64 0, .int .i64 0, .bool false]) ∧ w = w' := by
  have HF : Hid (∀ W : World, Calls Try.prog 41 #[.string s] W fun e w' => e = .returned (.bool false) ∧ W = w') := fun W => l04Table_no s W hm h
  clear h
  go_enter Try.func19, Try.ntmps19
  go_wp2_with (go_at_call 41; refine (HF.out _).mono ?_; rintro e w1 ⟨rfl, rfl⟩)
  go_ret3
  exact ⟨rfl, rfl⟩
theorem implShiftsOf_no (s : ByteArray) (w : World) (hm : s.size ≤ maxLen) (h : ¬ ∃ n, TabP n s) :
    Calls Try.prog 22 #[.string s] w fun e w' => e = .returned (.tuple #[.slice none 0 0, .bool false]) ∧ Below w.heap.size w w' := by
  have HF : Hid (∀ W : World, Calls Try.prog 43 #[.string s] W fun e w' => e = .returned (.tuple #[.agg #[.int .i64 0, .int .u64 0], .bool false]) ∧ Below W.heap.size W w') := fun W => funOf_no s W hm h
  clear h
  go_enter Try.func22, Try.ntmps22
  go_wp2_with (go_at_call 43; refine (HF.out _).mono ?_; rintro e w1 ⟨rfl, hb⟩)
  go_ret2
  exact ⟨rfl, hb.alloc hb.size _⟩
theorem specShiftsOf_no (s : ByteArray) (w : World) (hm : s.size ≤ maxLen) (h : ¬ ∃ n, TabP n s) :
    Calls Try.prog 21 #[.string s] w fun e w' => e = .returned (.tuple #[.slice none 0 0, .bool false]) ∧ w = w' := by
  have HF : Hid (∀ W : World, Calls Try.prog 41 #[.string s] W fun e w' => e = .returned (.bool false) ∧ W = w') := fun W => l04Table_no s W hm h
  clear h
  go_enter Try.func21, Try.ntmps21
  go_wp2_with (go_at_call 41; refine (HF.out _).mono ?_; rintro e w1 ⟨rfl, rfl⟩)
  go_ret2
  exact ⟨rfl, rfl⟩
theorem implFixedShifts_no (s : ByteArray) (w : World) (hm : s.size ≤ maxLen) (h : ¬ ∃ n, TabP n s) :
    Calls Try.prog 27 #[.string s] w fun e w' => e = .returned (.tuple #[.slice none 0 0, .bool false]) ∧ Below w.heap.size w w' := by
  have HF : Hid (∀ W : World, Calls Try.prog 43 #[.string s] W fun e w' => e = .returned (.tuple #[.agg #[.int .i64 0, .int .u64 0], .bool false]) ∧ Below W.heap.size W w') := fun W => funOf_no s W hm h
  clear h
  go_enter Try.func27, Try.ntmps27
  go_wp2_with (go_at_call 43; refine (HF.out _).mono ?_; rintro e w1 ⟨rfl, hb⟩)
  go_ret2
  exact ⟨rfl, hb.alloc hb.size _⟩
theorem specFixedShifts_no (s : ByteArray) (w : World) (hm : s.size ≤ maxLen) (h : ¬ ∃ n, TabP n s) :
    Calls Try.prog 26 #[.string s] w fun e w' => e = .returned (.tuple #[.slice none 0 0, .bool false]) ∧ w = w' := by
  have HF : Hid (∀ W : World, Calls Try.prog 41 #[.string s] W fun e w' => e = .returned (.bool false) ∧ W = w') := fun W => l04Table_no s W hm h
  clear h
  go_enter Try.func26, Try.ntmps26
  go_wp2_with (go_at_call 41; refine (HF.out _).mono ?_; rintro e w1 ⟨rfl, rfl⟩)
  go_ret2
  exact ⟨rfl, rfl⟩
end Go.Proofs.Ytgpcacbjmjpdnab
