/- The longest run of bits: (impl.longestRun).of, impl.LongestRun, spec.l05Most, spec.LongestRun, and the law FnExactLongestRun. -/
import Derived.Test.YtooohiaokjpoiabRuns
namespace Go.Proofs.Ytooohiaokjpoiab
open Go.RowKit Go.PlainAid
set_option maxHeartbeats 400000

/-- the greatest of the first k numbers, at least 0 -/
def topOf (l : List Int) : Nat → Int
  | 0 => 0
  | k + 1 => if topOf l k < l.getD k 0 then l.getD k 0 else topOf l k
theorem topOf_in (l : List Int) (b : Int) (hb : 0 ≤ b) (h : ∀ i, (h : i < l.length) → l[i] ≤ b) : ∀ k, 0 ≤ topOf l k ∧ topOf l k ≤ b := by
  intro k
  induction k with
  | zero => exact ⟨Int.le_refl _, hb⟩
  | succ k ih =>
    unfold topOf
    have : l.getD k 0 ≤ b := by
      rw [List.getD_eq_getElem?_getD]
      by_cases hk : k < l.length
      · rw [List.getElem?_eq_getElem hk]; exact h k hk
      · rw [List.getElem?_eq_none (by omega)]; exact hb
    split <;> omega

theorem longest_of (s : ByteArray) (w : World) (h : BitsP s) :
    Calls Try.prog 41 #[.agg #[], .string s] w fun e w' => e = .returned (.int .i64 (topOf (runsTo s s.size) (runsTo s s.size).length)) ∧ Below w.heap.size w w' := by
  have hlen := runsTo_length s s.size
  have hs := h.len
  have HR : Hid (∀ W : World, Calls Try.prog 52 #[.string s] W fun e w' => ∃ v, e = .returned (.tuple #[v, .bool true]) ∧ w'.ownsRow W.heap.size 2 1 v (runsTo s s.size).length ((runsTo s s.size).map (Value.int .i64)) ∧ Below W.heap.size W w') := fun W => runs_yes s W h
  have hin := runsTo_in s s.size
  clear h
  obtain ⟨l, hl⟩ : ∃ l, runsTo s s.size = l := ⟨_, rfl⟩
  rw [hl] at HR hlen hin ⊢
  have htop := topOf_in l 1048576 (by omega) (fun i hi => by have := (hin i hi).2; omega)
  clear hl
  go_enter Try.func41, Try.ntmps41
  go_wp2_with fail
  refine (HR.out _).mono ?_
  rintro e w1 ⟨v, rfl, hown, hb⟩
  have hsl := SL.of_own hown
  have hB : Below w.heap.size w w1 := ((Below.refl w.heap.size w).alloc (Nat.le_refl _) _).trans (hb.mono (by simp))
  clear hown hb HR
  rcases hsl with ⟨rfl, rfl⟩ | ⟨g, cap, rfl, hcap, hg1, hg2, hc, hf⟩
  · go_wp2
    refine wp_loop_rounds 1 ?_
    rw [rounds_succ]
    go_wp2
    go_ret
    exact ⟨rfl, hB⟩
  · go_wp2
    go_loopw [7, 9, 17] (fun m _ i wr => ∃ k : Nat, k ≤ l.length ∧ i = .int .i64 k ∧ m = .int .i64 (topOf l k) ∧ w1 = wr) (fun _ _ i _ => l.length - (intOf i).toNat)
    case atStart => exact ⟨0, Nat.zero_le _, rfl, rfl, rfl⟩
    case round =>
      obtain ⟨k, hk, rfl, rfl, rfl⟩ := hrel
      by_cases hlt : k < l.length
      · have hck := hc k hlt
        have HT : Hid (topOf l (k + 1) = if topOf l k < l[k] then l[k] else topOf l k) := by unfold Hid; rw [topOf, List.getD_eq_getElem?_getD, List.getElem?_eq_getElem hlt]; rfl
        go_wp2
        go_roundw
        case rel => exact ⟨k + 1, by omega, by go_num, by rw [HT.out], by first | rfl | trivial⟩
        case measure => simp [intOf]; omega
      · obtain rfl : k = l.length := by omega
        go_wp2
        go_ret
        exact ⟨rfl, hB⟩

theorem longest_yes (s : ByteArray) (w : World) (h : BitsP s) :
    Calls Try.prog 18 #[.string s] w fun e w' => e = .returned (.tuple #[.int .i64 (topOf (runsTo s s.size) (runsTo s s.size).length), .bool true]) ∧ Below w.heap.size w w' := by
  have HI := Lib.hid (isBits_yes s · h)
  have HL := Lib.hid (longest_of s · h)
  generalize topOf (runsTo s s.size) (runsTo s s.size).length = r at HL ⊢
  clear h
  go_enter Try.func18, Try.ntmps18
  go_wp2_with fail
  refine (HI.out _).mono ?_
  rintro e w1 ⟨rfl, hb⟩
  go_wp2_with fail
  refine (HL.out _).mono ?_
  rintro e w2 ⟨rfl, hb2⟩
  go_wp2
  go_ret2
  exact ⟨rfl, hb.trans (hb2.mono hb.size)⟩
theorem longest_no (s : ByteArray) (w : World) (hm : s.size ≤ maxLen) (h : ¬ BitsP s) :
    Calls Try.prog 18 #[.string s] w fun e w' => e = .returned (.tuple #[.int .i64 0, .bool false]) ∧ Below w.heap.size w w' := by
  have HI := Lib.hid (isBits_no s · hm h)
  clear h
  go_enter Try.func18, Try.ntmps18
  go_wp2_with fail
  refine (HI.out _).mono ?_
  rintro e w1 ⟨rfl, hb⟩
  go_wp2
  go_ret2
  exact ⟨rfl, hb⟩

theorem l00Max_if (a b : Int) (w : World) :
    Calls Try.prog 50 #[.int .i64 a, .int .i64 b] w fun e w' => e = .returned (.int .i64 (if a < b then b else a)) ∧ w = w' := by
  by_cases h : a < b
  · have h2 : ¬ b < a := by omega
    rw [if_pos h]
    go_enter Try.func50, Try.ntmps50
    go_wp2
    go_ret
    exact ⟨rfl, rfl⟩
  · by_cases h2 : b < a
    · rw [if_neg h]
      go_enter Try.func50, Try.ntmps50
      go_wp2
      go_ret
      exact ⟨rfl, rfl⟩
    · obtain rfl : a = b := by omega
      rw [if_neg h]
      go_enter Try.func50, Try.ntmps50
      go_wp2
      go_ret
      exact ⟨rfl, rfl⟩

theorem l05Most_any (s : ByteArray) (w : World) (hs : s.size ≤ 400) :
    Calls Try.prog 39 #[.string s] w fun e w' => e = .returned (.int .i64 (topOf (runsTo s s.size) (runsTo s s.size).length)) ∧ Below w.heap.size w w' := by
  have hlen := runsTo_length s s.size
  have HR : Hid (∀ W : World, Calls Try.prog 49 #[.string s] W fun e w' => ∃ v, e = .returned v ∧ w'.ownsRow W.heap.size 2 1 v (runsTo s s.size).length ((runsTo s s.size).map (Value.int .i64)) ∧ Below W.heap.size W w') := fun W => l01Runs_any s W hs
  obtain ⟨l, hl⟩ : ∃ l, runsTo s s.size = l := ⟨_, rfl⟩
  rw [hl] at HR hlen ⊢
  clear hl
  have HX : Hid (∀ (a b : Int) (W : World), Calls Try.prog 50 #[.int .i64 a, .int .i64 b] W fun e w' => e = .returned (.int .i64 (if a < b then b else a)) ∧ W = w') := l00Max_if
  go_enter Try.func39, Try.ntmps39
  go_wp2_with fail
  refine (HR.out _).mono ?_
  rintro e w1 ⟨v, rfl, hown, hb⟩
  have hsl := SL.of_own hown
  clear hown HR
  rcases hsl with ⟨rfl, rfl⟩ | ⟨g, cap, rfl, hcap, hg1, hg2, hc, hf⟩
  · go_wp2
    refine wp_loop_rounds 1 ?_
    rw [rounds_succ]
    go_wp2
    go_ret
    exact ⟨rfl, hb⟩
  · go_wp2
    go_loopw [4, 5] (fun m i wr => ∃ k : Nat, k ≤ l.length ∧ i = .int .i64 k ∧ m = .int .i64 (topOf l k) ∧ w1 = wr) (fun _ i _ => l.length - (intOf i).toNat)
    case atStart => exact ⟨0, Nat.zero_le _, rfl, rfl, rfl⟩
    case round =>
      obtain ⟨k, hk, rfl, rfl, rfl⟩ := hrel
      by_cases hlt : k < l.length
      · have hck := hc k hlt
        have HT : Hid (topOf l (k + 1) = if topOf l k < l[k] then l[k] else topOf l k) := by unfold Hid; rw [topOf, List.getD_eq_getElem?_getD, List.getElem?_eq_getElem hlt]; rfl
        go_wp2_with fail
        refine (HX.out _ _ _).mono ?_
        rintro e w2 ⟨rfl, rfl⟩
        go_wp2
        go_roundw
        case rel => exact ⟨k + 1, by omega, by go_num, by rw [HT.out], by first | rfl | trivial⟩
        case measure => simp [intOf]; omega
      · obtain rfl : k = l.length := by omega
        go_wp2
        go_ret
        exact ⟨rfl, hb⟩
theorem specLongest_yes (s : ByteArray) (w : World) (h : BitsP s) :
    Calls Try.prog 17 #[.string s] w fun e w' => e = .returned (.tuple #[.int .i64 (topOf (runsTo s s.size) (runsTo s s.size).length), .bool true]) ∧ Below w.heap.size w w' := by
  have HI := Lib.hid (l01Bits_yes s · h)
  have HL := Lib.hid (l05Most_any s · h.len)
  generalize topOf (runsTo s s.size) (runsTo s s.size).length = r at HL ⊢
  clear h
  go_enter Try.func17, Try.ntmps17
  go_wp2_with fail
  refine (HI.out _).mono ?_
  rintro e w1 ⟨rfl, hb⟩
  go_wp2_with fail
  refine (HL.out _).mono ?_
  rintro e w2 ⟨rfl, hb2⟩
  go_wp2
  go_ret2
  exact ⟨rfl, by first | exact hb.trans (hb2.mono hb.size) | (subst hb; exact hb2)⟩
theorem specLongest_no (s : ByteArray) (w : World) (hm : s.size ≤ maxLen) (h : ¬ BitsP s) :
    Calls Try.prog 17 #[.string s] w fun e w' => e = .returned (.tuple #[.int .i64 0, .bool false]) ∧ Below w.heap.size w w' := by
  have HI := Lib.hid (l01Bits_no s · hm h)
  clear h
  go_enter Try.func17, Try.ntmps17
  go_wp2_with fail
  refine (HI.out _).mono ?_
  rintro e w1 ⟨rfl, hb⟩
  go_wp2
  go_ret2
  exact ⟨rfl, by first | exact hb | (subst hb; exact Below.refl _ _)⟩
theorem lawLongest (s : ByteArray) (w : World) (hm : s.size ≤ maxLen) :
    Calls Try.prog 6 #[.string s] w fun e w' => e = .returned (.bool true) ∧ Below w.heap.size w w' := by
  by_cases hl : s.size ≤ 1048576
  · have K : ∃ (r : Int) (ok : Bool), Hid (∀ W : World, Calls Try.prog 17 #[.string s] W fun e w' => e = .returned (.tuple #[.int .i64 r, .bool ok]) ∧ Below W.heap.size W w') ∧ Hid (∀ W : World, Calls Try.prog 18 #[.string s] W fun e w' => e = .returned (.tuple #[.int .i64 r, .bool ok]) ∧ Below W.heap.size W w') := by
      by_cases h : BitsP s
      · exact ⟨_, true, fun W => specLongest_yes s W h, fun W => longest_yes s W h⟩
      · exact ⟨0, false, fun W => specLongest_no s W hm h, fun W => longest_no s W hm h⟩
    obtain ⟨r, ok, HS, HI⟩ := K
    have h1 : (r != r) = false := by simp
    have h2 : (ok != ok) = false := by simp
    go_enter Try.func6, Try.ntmps6
    go_wp2_with fail
    refine (HS.out _).mono ?_
    rintro e w1 ⟨rfl, hb⟩
    go_wp2_with fail
    refine (HI.out _).mono ?_
    rintro e w2 ⟨rfl, hb2⟩
    go_wp2
    go_ret
    exact ⟨rfl, hb.trans (hb2.mono hb.size)⟩
  · unfold maxLen at hm
    go_enter Try.func6, Try.ntmps6
    go_wp2
    go_ret
    exact ⟨rfl, Below.refl _ _⟩
end Go.Proofs.Ytooohiaokjpoiab
