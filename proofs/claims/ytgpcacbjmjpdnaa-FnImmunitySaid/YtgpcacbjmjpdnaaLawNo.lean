/- What is no table: the functions of tables return zero values. -/
import Derived.Test.YtgpcacbjmjpdnaaTabSpec
namespace Go.Proofs.Ytgpcacbjmjpdnaa
open Go.RowKit Go.PlainAid
set_option maxHeartbeats 800000

theorem implNormalForm_no (s : ByteArray) (w : World) (hm : s.size ≤ maxLen) (h : ¬ ∃ n, TabP n s) :
    Calls Try.prog 15 #[.string s] w fun e w' => e = .returned (.tuple #[.string ⟨#[]⟩, .bool false]) ∧ Below w.heap.size w w' := by
  have HF : Hid (∀ W : World, Calls Try.prog 46 #[.string s] W fun e w' => e = .returned (.tuple #[.agg #[.int .i64 0, .int .u64 0], .bool false]) ∧ Below W.heap.size W w') := fun W => funOf_no s W hm h
  clear h
  go_enter Try.func15, Try.ntmps15
  go_wp2_with (go_at_call 46; refine (HF.out _).mono ?_; rintro e w1 ⟨rfl, hb⟩)
  go_ret2
  exact ⟨rfl, hb.alloc hb.size _⟩
theorem specNormalForm_no (s : ByteArray) (w : World) (hm : s.size ≤ maxLen) (h : ¬ ∃ n, TabP n s) :
    Calls Try.prog 37 #[.string s] w fun e w' => e = .returned (.tuple #[.string ⟨#[]⟩, .bool false]) ∧ w = w' := by
  have HF : Hid (∀ W : World, Calls Try.prog 63 #[.string s] W fun e w' => e = .returned (.bool false) ∧ W = w') := fun W => l04Table_no s W hm h
  clear h
  go_enter Try.func37, Try.ntmps37
  go_wp2_with (go_at_call 63; refine (HF.out _).mono ?_; rintro e w1 ⟨rfl, rfl⟩)
  go_ret2
  exact ⟨rfl, rfl⟩
theorem implDegreeOf_no (s : ByteArray) (w : World) (hm : s.size ≤ maxLen) (h : ¬ ∃ n, TabP n s) :
    Calls Try.prog 16 #[.string s] w fun e w' => e = .returned (.tuple #[.int .i64 0, .bool false]) ∧ Below w.heap.size w w' := by
  have HF : Hid (∀ W : World, Calls Try.prog 46 #[.string s] W fun e w' => e = .returned (.tuple #[.agg #[.int .i64 0, .int .u64 0], .bool false]) ∧ Below W.heap.size W w') := fun W => funOf_no s W hm h
  clear h
  go_enter Try.func16, Try.ntmps16
  go_wp2_with (go_at_call 46; refine (HF.out _).mono ?_; rintro e w1 ⟨rfl, hb⟩)
  go_ret2
  exact ⟨rfl, hb.alloc hb.size _⟩
theorem specDegreeOf_no (s : ByteArray) (w : World) (hm : s.size ≤ maxLen) (h : ¬ ∃ n, TabP n s) :
    Calls Try.prog 38 #[.string s] w fun e w' => e = .returned (.tuple #[.int .i64 0, .bool false]) ∧ w = w' := by
  have HF : Hid (∀ W : World, Calls Try.prog 63 #[.string s] W fun e w' => e = .returned (.bool false) ∧ W = w') := fun W => l04Table_no s W hm h
  clear h
  go_enter Try.func38, Try.ntmps38
  go_wp2_with (go_at_call 63; refine (HF.out _).mono ?_; rintro e w1 ⟨rfl, rfl⟩)
  go_ret2
  exact ⟨rfl, rfl⟩
theorem implSpectrumOf_no (s : ByteArray) (w : World) (hm : s.size ≤ maxLen) (h : ¬ ∃ n, TabP n s) :
    Calls Try.prog 21 #[.string s] w fun e w' => e = .returned (.tuple #[.slice none 0 0, .bool false]) ∧ Below w.heap.size w w' := by
  have HF : Hid (∀ W : World, Calls Try.prog 46 #[.string s] W fun e w' => e = .returned (.tuple #[.agg #[.int .i64 0, .int .u64 0], .bool false]) ∧ Below W.heap.size W w') := fun W => funOf_no s W hm h
  clear h
  go_enter Try.func21, Try.ntmps21
  go_wp2_with (go_at_call 46; refine (HF.out _).mono ?_; rintro e w1 ⟨rfl, hb⟩)
  go_ret2
  exact ⟨rfl, hb.alloc hb.size _⟩
theorem specSpectrumOf_no (s : ByteArray) (w : World) (hm : s.size ≤ maxLen) (h : ¬ ∃ n, TabP n s) :
    Calls Try.prog 39 #[.string s] w fun e w' => e = .returned (.tuple #[.slice none 0 0, .bool false]) ∧ w = w' := by
  have HF : Hid (∀ W : World, Calls Try.prog 63 #[.string s] W fun e w' => e = .returned (.bool false) ∧ W = w') := fun W => l04Table_no s W hm h
  clear h
  go_enter Try.func39, Try.ntmps39
  go_wp2_with (go_at_call 63; refine (HF.out _).mono ?_; rintro e w1 ⟨rfl, rfl⟩)
  go_ret2
  exact ⟨rfl, rfl⟩
theorem implBalanceOf_no (s : ByteArray) (w : World) (hm : s.size ≤ maxLen) (h : ¬ ∃ n, TabP n s) :
    Calls Try.prog 22 #[.string s] w fun e w' => e = .returned (.tuple #[.int .i64 0, .bool false]) ∧ Below w.heap.size w w' := by
  have HF : Hid (∀ W : World, Calls Try.prog 46 #[.string s] W fun e w' => e = .returned (.tuple #[.agg #[.int .i64 0, .int .u64 0], .bool false]) ∧ Below W.heap.size W w') := fun W => funOf_no s W hm h
  clear h
  go_enter Try.func22, Try.ntmps22
  go_wp2_with (go_at_call 46; refine (HF.out _).mono ?_; rintro e w1 ⟨rfl, hb⟩)
  go_ret2
  exact ⟨rfl, hb.alloc hb.size _⟩
theorem implImmunityOf_no (s : ByteArray) (w : World) (hm : s.size ≤ maxLen) (h : ¬ ∃ n, TabP n s) :
    Calls Try.prog 26 #[.string s] w fun e w' => e = .returned (.tuple #[.int .i64 0, .bool false]) ∧ Below w.heap.size w w' := by
  have HF : Hid (∀ W : World, Calls Try.prog 46 #[.string s] W fun e w' => e = .returned (.tuple #[.agg #[.int .i64 0, .int .u64 0], .bool false]) ∧ Below W.heap.size W w') := fun W => funOf_no s W hm h
  clear h
  go_enter Try.func26, Try.ntmps26
  go_wp2_with (go_at_call 46; refine (HF.out _).mono ?_; rintro e w1 ⟨rfl, hb⟩)
  go_ret2
  exact ⟨rfl, hb.alloc hb.size _⟩
theorem implNonlinearityOf_no (s : ByteArray) (w : World) (hm : s.size ≤ maxLen) (h : ¬ ∃ n, TabP n s) :
    Calls Try.prog 23 #[.string s] w fun e w' => e = .returned (.tuple #[.int .i64 0, .bool false]) ∧ Below w.heap.size w w' := by
  have HF : Hid (∀ W : World, Calls Try.prog 46 #[.string s] W fun e w' => e = .returned (.tuple #[.agg #[.int .i64 0, .int .u64 0], .bool false]) ∧ Below W.heap.size W w') := fun W => funOf_no s W hm h
  clear h
  go_enter Try.func23, Try.ntmps23
  go_wp2_with (go_at_call 46; refine (HF.out _).mono ?_; rintro e w1 ⟨rfl, hb⟩)
  go_ret2
  exact ⟨rfl, hb.alloc hb.size _⟩
theorem implNearestSum_no (s : ByteArray) (w : World) (hm : s.size ≤ maxLen) (h : ¬ ∃ n, TabP n s) :
    Calls Try.prog 24 #[.string s] w fun e w' => e = .returned (.tuple #[.int .i64 0, .int .i64 0, .bool false]) ∧ Below w.heap.size w w' := by
  have HF : Hid (∀ W : World, Calls Try.prog 46 #[.string s] W fun e w' => e = .returned (.tuple #[.agg #[.int .i64 0, .int .u64 0], .bool false]) ∧ Below W.heap.size W w') := fun W => funOf_no s W hm h
  clear h
  go_enter Try.func24, Try.ntmps24
  go_wp2_with (go_at_call 46; refine (HF.out _).mono ?_; rintro e w1 ⟨rfl, hb⟩)
  go_ret3
  exact ⟨rfl, hb.alloc hb.size _⟩
end Go.Proofs.Ytgpcacbjmjpdnaa
