/- All words of a width in a circle: impl.IsAllWords, spec.IsAllWords, the law FnExactIsAllWords. -/
import Derived.Test.YtapccbplmbbnnacUnroll
import Derived.Test.YtapccbplmbbnnacNumber
namespace Go.Proofs.Ytapccbplmbbnnac
open Go.RowKit Go.PlainAid
set_option maxHeartbeats 400000

theorem Try.info4 : (Try.prog.info? 4).map (fun i => (i.zero, i.size, i.bytes)) = some (some (.bool false), 1, 1) := by kernel_rfl

/-- the word of j bits at index i of a circle of n bits -/
def wd (s : ByteArray) (n i : Nat) : Nat → Int
  | 0 => 0
  | j + 1 => 2 * wd s n i j + (bt s ((i + j) % n) - 48)
theorem bt_in {s : ByteArray} (h : AllIn 48 49 s) {k : Nat} (hk : k < s.size) : 48 ≤ bt s k ∧ bt s k ≤ 49 := by
  have := h k hk
  rwa [get_bt s k hk] at this
theorem wd_in {s : ByteArray} (h : AllIn 48 49 s) (h0 : 0 < s.size) (i : Nat) : ∀ j, 0 ≤ wd s s.size i j ∧ wd s s.size i j + 1 ≤ 2 ^ j := by
  intro j
  induction j with
  | zero => exact ⟨by simp [wd], by simp [wd]⟩
  | succ j ih =>
    have hb := bt_in h (Nat.mod_lt (i + j) h0)
    have e : (2 : Int) ^ (j + 1) = 2 * 2 ^ j := by rw [Int.pow_succ]; omega
    rw [e]
    unfold wd
    omega
theorem numsOf_get (s : ByteArray) (k : Nat) (hk : k < s.size) : (numsOf s)[k]'(by rw [numsOf_length]; exact hk) = bt s k := by
  rw [← get_bt s k hk]
  simp [numsOf]
  rfl
theorem numsU_get (l : List Int) (k : Nat) (hk : k < l.length) : (strOfNums l)[k]'(by rw [strOfNums_size]; exact hk) = UInt8.ofNat (l[k]).toNat := by
  have h1 := strOfNums_data l
  have h2 : ((strOfNums l).data.toList)[k]? = some (UInt8.ofNat (l[k]).toNat) := by rw [h1]; simp [List.getElem?_eq_getElem hk]
  have h3 : (strOfNums l).data[k]? = some (UInt8.ofNat (l[k]).toNat) := by simpa using h2
  exact (Array.getElem?_eq_some_iff.1 h3).2
theorem twice_size (s : ByteArray) : (twice s).size = 2 * s.size := by
  unfold twice
  rw [strOfNums_size, List.length_append, numsOf_length]
  omega
theorem twice_bt {s : ByteArray} (h0 : 0 < s.size) {k : Nat} (hk : k < 2 * s.size) : bt (twice s) k = bt s (k % s.size) := by
  have hl : k < (numsOf s ++ numsOf s).length := by rw [List.length_append, numsOf_length]; omega
  have hm : k % s.size < s.size := Nat.mod_lt _ h0
  have e : (numsOf s ++ numsOf s)[k]'hl = bt s (k % s.size) := by
    by_cases hlt : k < s.size
    · rw [List.getElem_append_left (by rw [numsOf_length]; exact hlt), numsOf_get s k hlt, Nat.mod_eq_of_lt hlt]
    · rw [List.getElem_append_right (by rw [numsOf_length]; omega)]
      have h2 : k % s.size = k - s.size := by rw [Nat.mod_eq_sub_mod (by omega), Nat.mod_eq_of_lt (by omega)]
      have h3 := numsOf_get s (k - s.size) (by omega)
      rw [h2, ← h3]
      simp only [numsOf_length]
  have hb : 0 ≤ bt s (k % s.size) ∧ bt s (k % s.size) ≤ 255 := by
    rw [← get_bt s _ hm]
    have := (s[k % s.size]'hm).toNat_lt
    omega
  have hz : k < (twice s).size := by rw [twice_size]; exact hk
  rw [← get_bt (twice s) k hz]
  have e2 : (twice s)[k]'hz = UInt8.ofNat ((numsOf s ++ numsOf s)[k]'hl).toNat := numsU_get _ k hl
  rw [e2, e, UInt8.toNat_ofNat']
  omega
theorem bt_cut (s : ByteArray) (a b k : Nat) (hb : b ≤ s.size) (h : a + k < b) : bt (s.extract a b) k = bt s (a + k) := by
  have h1 : k < (s.extract a b).size := by rw [ByteArray.size_extract]; omega
  rw [← get_bt _ k h1, ← get_bt _ (a + k) (by omega), ByteArray.getElem_extract]
theorem num_cut {s : ByteArray} (h0 : 0 < s.size) {i W : Nat} (hi : i < s.size) (hW : W ≤ s.size) : ∀ j, j ≤ W → numTo ((twice s).extract i (i + W)) j = wd s s.size i j := by
  intro j
  induction j with
  | zero => intro _; rfl
  | succ j ih =>
    intro hj
    unfold numTo wd
    rw [ih (by omega), bt_cut _ _ _ _ (by rw [twice_size]; omega) (by omega), twice_bt h0 (by omega)]
theorem all_cut {s : ByteArray} (h : AllIn 48 49 s) (h0 : 0 < s.size) {i W : Nat} (hi : i < s.size) (hW : W ≤ s.size) : AllIn 48 49 ((twice s).extract i (i + W)) := by
  intro k hk
  rw [get_bt _ k hk]
  have h2 : k < W := by
    rw [ByteArray.size_extract] at hk
    omega
  rw [bt_cut _ _ _ _ (by rw [twice_size]; omega) (by omega), twice_bt h0 (by omega)]
  exact bt_in h (Nat.mod_lt _ h0)

/-- words one after another, none twice -/
def goW (word : Nat → Nat) : Nat → Nat → List Bool → Bool
  | 0, _, _ => true
  | f + 1, k, L => if L.getD (word k) false = true then false else goW word f (k + 1) (L.set (word k) true)
def wordN (s : ByteArray) (W k : Nat) : Nat := (wd s s.size k W).toNat
def allW (s : ByteArray) (W : Nat) : Bool := goW (wordN s W) s.size 0 (List.replicate s.size false)
theorem wordN_lt {s : ByteArray} (h : AllIn 48 49 s) {W : Nat} (hW : s.size = 2 ^ W) (k : Nat) : (wordN s W k : Int) = wd s s.size k W ∧ wordN s W k < s.size := by
  have h0 : 0 < s.size := by rw [hW]; exact Nat.pow_pos (by omega)
  have h1 := wd_in h h0 k W
  have e : ((2 ^ W : Nat) : Int) = (2 : Int) ^ W := by simp
  unfold wordN
  omega
theorem own_belowU {w w1 : World} {B : Nat} {e : TypeId} {size n : Nat} {v : Value} {xs : List Value} (h : w.ownsRow B e size v n xs) (hb : Below w.heap.size w w1) : w1.ownsRow B e size v n xs := by
  obtain ⟨h1, h2 | ⟨g, cap, cur, hv, hg, hc, r⟩⟩ := h
  · exact ⟨h1, .inl h2⟩
  · exact ⟨h1, .inr ⟨g, cap, cur, hv, hg, by rw [hb.block g (Array.getElem?_eq_some_iff.1 hc).1]; exact hc, r⟩⟩
theorem bools_made (n : Nat) : (madeCells (Value.bool false).cells (n * 1)).toList = (List.replicate n false).map Value.bool := by
  have : (Value.bool false).cells = #[.bool false] := rfl
  rw [this, toList_madeCells_one]
  simp
theorem bool_at {w : World} {base : Nat} {e : TypeId} {g n cap v : Nat} {L : List Bool} (h : w.ownsRow base e 1 (.slice (some ⟨g, 0, none⟩) n cap) n (L.map Value.bool)) (hl : L.length = n) (hv : v < n) :
    w.cell? ⟨g, v, none⟩ = some (.bool (L.getD v false)) ∧ w.frozen? ⟨g, v, none⟩ = false := by
  refine ⟨?_, h.frozenAt _⟩
  rw [h.cellAt v (by omega)]
  simp [List.getElem?_eq_getElem (show v < L.length by omega)]
theorem bool_set {w : World} {base : Nat} {e : TypeId} {g n cap v : Nat} {L : List Bool} (h : w.ownsRow base e 1 (.slice (some ⟨g, 0, none⟩) n cap) n (L.map Value.bool)) :
    (w.setCell ⟨g, v, none⟩ (.bool true)).ownsRow base e 1 (.slice (some ⟨g, 0, none⟩) n cap) n ((L.set v true).map Value.bool) := by
  rw [List.map_set]
  exact (h.stored v (.bool true)).1

theorem isBitsOf_yes (s : ByteArray) (n : Int) (w : World) (hn : (s.size : Int) = n) (hs : BitsP s) :
    Calls Try.prog 25 #[.string s, .int .i64 n] w fun e w' => e = .returned (.bool true) ∧ Below w.heap.size w w' := by
  have e1 : ((s.size : Int) == n) = true := by simp [hn]
  have HB := Lib.hid hs
  clear hs hn
  go_enter Try.func25, Try.ntmps25
  go_wp2_with (go_at_call 46; refine (isBits_yes _ _ HB.out).mono ?_; rintro e w1 ⟨rfl, hb⟩)
  go_ret
  exact ⟨rfl, hb⟩
theorem isBitsOf_no (s : ByteArray) (n : Int) (w : World) (hm : s.size ≤ maxLen) (h : ¬ ((s.size : Int) = n ∧ BitsP s)) :
    Calls Try.prog 25 #[.string s, .int .i64 n] w fun e w' => e = .returned (.bool false) ∧ Below w.heap.size w w' := by
  by_cases hn : (s.size : Int) = n
  · have e1 : ((s.size : Int) == n) = true := by simp [hn]
    have HB : Hid (¬ BitsP s) := fun x => h ⟨hn, x⟩
    clear h hn
    go_enter Try.func25, Try.ntmps25
    go_wp2_with (go_at_call 46; refine (isBits_no _ _ hm HB.out).mono ?_; rintro e w1 ⟨rfl, hb⟩)
    go_ret
    exact ⟨rfl, hb⟩
  · have e1 : ((s.size : Int) == n) = false := by simp [hn]
    clear h hn
    go_enter Try.func25, Try.ntmps25
    go_wp2
    go_ret
    exact ⟨rfl, Below.refl _ _⟩
end Go.Proofs.Ytapccbplmbbnnac
