/- What the law FnBits needs of its calls. -/
import Derived.Test.YtapccbplmbbnnabBitsMath
import Derived.Test.YtapccbplmbbnnabParity
import Derived.Test.YtapccbplmbbnnabDrawBits
namespace Go.Proofs.Ytapccbplmbbnnab
open Go.RowKit Go.PlainAid
set_option maxHeartbeats 800000

theorem own_below {w w1 : World} {B : Nat} {e : TypeId} {size n : Nat} {v : Value} {xs : List Value} (h : w.ownsRow B e size v n xs) (hb : Below w.heap.size w w1) : w1.ownsRow B e size v n xs := by
  obtain ⟨h0, h1 | ⟨g, cap, cur, hv, hg, hblk, h2, h3, h4, h5⟩⟩ := h
  · exact ⟨h0, .inl h1⟩
  · exact ⟨h0, .inr ⟨g, cap, cur, hv, hg, (hb.block g (Array.getElem?_eq_some_iff.1 hblk).1).trans hblk, h2, h3, h4, h5⟩⟩
theorem SL.shape {base top : Nat} {w : World} {v : Value} {xs : List Int} (h : SL base top w v xs) : ∃ p c, v = .slice p xs.length c := by
  rcases h with ⟨rfl, rfl⟩ | ⟨g, cap, rfl, _⟩
  · exact ⟨none, 0, rfl⟩
  · exact ⟨_, _, rfl⟩

theorem sumI_take (xs : List Int) (hx : ∀ i, (h : i < xs.length) → 0 ≤ xs[i] ∧ xs[i] ≤ 400) : ∀ j, j ≤ xs.length → 0 ≤ sumI (xs.take j) ∧ sumI (xs.take j) ≤ 400 * j := by
  intro j
  induction j with
  | zero => intro _; simp [sumI]
  | succ j ih =>
    intro hj
    have h1 := ih (by omega)
    have h2 := hx j (by omega)
    rw [List.take_succ_eq_append_getElem (by omega), sumI_snoc]
    omega

theorem sum_any (u : Value) (xs : List Int) (base top : Nat) (w : World) (hu : SL base top w u xs) (hn : xs.length ≤ 400) (hx : ∀ i, (h : i < xs.length) → 0 ≤ xs[i] ∧ xs[i] ≤ 400) :
    Calls Try.prog 24 #[u] w fun e w' => e = .returned (.int .i64 (sumI xs)) ∧ w = w' := by
  rcases hu with ⟨rfl, rfl⟩ | ⟨g, cap, rfl, hcap, hg1, hg2, hc, hf⟩
  · go_enter Try.func24, Try.ntmps24
    go_wp2
    refine wp_loop_rounds 1 ?_
    rw [rounds_succ]
    go_wp2
    go_ret
    exact ⟨rfl, rfl⟩
  · have HC := Lib.hid hc
    have HX := Lib.hid hx
    have HT := Lib.hid (sumI_take xs hx)
    clear hc hf hx
    go_enter Try.func24, Try.ntmps24
    go_wp2
    go_loop [3, 4] (fun nv i => ∃ j : Nat, j ≤ xs.length ∧ i = .int .i64 j ∧ nv = .int .i64 (sumI (xs.take j))) (fun _ i => xs.length - (intOf i).toNat)
    case atStart => exact ⟨0, Nat.zero_le _, rfl, rfl⟩
    case round =>
      obtain ⟨j, hj, rfl, rfl⟩ := hrel
      obtain ⟨t1, t2⟩ := HT.out j hj
      by_cases hlt : j < xs.length
      · have c1 := HC.out j hlt
        obtain ⟨x1, x2⟩ := HX.out j hlt
        have HS : Hid (sumI (xs.take (j + 1)) = sumI (xs.take j) + xs[j]) := by
          unfold Hid
          rw [List.take_succ_eq_append_getElem hlt, sumI_snoc]
        go_wp2
        go_round
        case rel => exact ⟨j + 1, by omega, by go_num, by rw [HS.out]⟩
        case measure => simp [intOf]; omega
      · obtain rfl : j = xs.length := by omega
        go_wp2
        go_ret
        exact ⟨rfl, rfl⟩

/-- what is told of some bits and other bits and what differs -/
structure Xored (s o x : ByteArray) : Prop where
  size : x.size = s.size
  at_ : ∀ k, k < s.size → bt x k = xorc (bt s k) (bt o k)
  one : ∀ w, Calls Try.prog 22 #[.string s, .string o] w fun e w' => e = .returned (.tuple #[.string x, .bool true]) ∧ Below w.heap.size w w'
  two : ∀ w, Calls Try.prog 22 #[.string x, .string o] w fun e w' => e = .returned (.tuple #[.string s, .bool true]) ∧ Below w.heap.size w w'

theorem told_first (s : ByteArray) (hs : s.size ≤ 40) (hA : AllIn 48 49 s) : ∃ N : Nat, N = numN s s.size ∧ N ≤ 9223372036854775807 ∧
    (∀ w, Calls Try.prog 17 #[.string s] w fun e w' => e = .returned (.tuple #[.int .i64 N, .bool true]) ∧ Below w.heap.size w w') ∧
    (∀ w, Calls Try.prog 18 #[.int .i64 N, .int .i64 s.size] w fun e w' => e = .returned (.tuple #[.string s, .bool true]) ∧ Below w.heap.size w w') := by
  have e := numN_is s hA s.size (Nat.le_refl _)
  obtain ⟨h1, h2⟩ := numTo_in s hA s.size (Nat.le_refl _) (by omega)
  obtain ⟨h3, h4⟩ := numTo_le s hA s.size (Nat.le_refl _) (by omega)
  refine ⟨_, rfl, by omega, fun w => ?_, fun w => ?_⟩
  · have := number_yes s w (by omega) hA
    rwa [e] at this
  · have := bits_yes (numTo s s.size) s.size w h3 (by omega) (by omega)
    rwa [low_number s hA, e] at this
theorem told_all (s o : ByteArray) (hs : s.size ≤ 40) (hA : AllIn 48 49 s) (hO : AllIn 48 49 o) (ho : o.size = s.size) (N : Nat) (hN : N = numN s s.size) (n1 : N ≤ 9223372036854775807) :
    ∃ M : Nat, M ≤ 9223372036854775807 ∧ (∀ w, Calls Try.prog 17 #[.string o] w fun e w' => e = .returned (.tuple #[.int .i64 M, .bool true]) ∧ Below w.heap.size w w') ∧
    (∀ w, Calls Try.prog 23 #[.int .i64 N, .int .i64 M] w fun e w' => e = .returned (.tuple #[.int .i64 (bothTo s o s.size % 2 : Nat), .bool true]) ∧ w = w') := by
  obtain ⟨M, hM, m1, m2, _⟩ := told_first o (by omega) hO
  refine ⟨M, m1, m2, fun w => ?_⟩
  have e := both_pc s o s.size hA hO (Nat.le_refl _) (by omega) s.size 64 (Nat.le_refl _) (by omega)
  have := parity_yes N M w n1 m1
  rw [hN, hM, ho, e] at this
  rw [hN, hM, ho]
  exact this
theorem xored (s o : ByteArray) (hs : s.size ≤ 40) (hA : AllIn 48 49 s) (hO : AllIn 48 49 o) (ho : o.size = s.size) : ∃ x, Xored s o x := by
  have hx := xor_all s o s.size
  have hz := xor_size s o s.size
  refine ⟨strOfNums (xorTo s o s.size), hz, fun k hk => bt_xor s o _ k hk, fun w => xor_yes s o w (by omega) (by omega) hA hO, fun w => ?_⟩
  have := xor_yes (strOfNums (xorTo s o s.size)) o w (by omega) (by omega) hx hO
  rwa [hz, xor_twice s o (by omega) hA hO] at this
end Go.Proofs.Ytapccbplmbbnnab
