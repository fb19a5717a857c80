/- The law of a coin's chance: the walk. -/
import Derived.Test.YtamedggnkbhgeaaCoinL
namespace Go.Proofs.Ytamedggnkbhgeaa
open Go.RowKit Go.PlainAid
set_option maxHeartbeats 1000000

theorem bt_get {l : List Int} {j : Nat} {v : Int} (h : l[j]? = some v) (h0 : 0 ≤ v) (h1 : v ≤ 255) : bt (strOfNums l) j = v := by
  have hj : j < l.length := (List.getElem?_eq_some_iff.1 h).1
  have hl : j < (strOfNums l).size := by rw [strOfNums_size]; exact hj
  have h2 : ((strOfNums l).data.toList)[j]? = some (UInt8.ofNat v.toNat) := by rw [strOfNums_data, List.getElem?_map, h]; rfl
  have h3 : (strOfNums l).data[j]? = some (UInt8.ofNat v.toNat) := by simpa using h2
  have h4 : (strOfNums l)[j]'hl = UInt8.ofNat v.toNat := (Array.getElem?_eq_some_iff.1 h3).2
  rw [← get_bt _ j hl, h4]
  have e : (UInt8.ofNat v.toNat).toNat = v.toNat := by
    simp
    omega
  rw [e, Int.toNat_of_nonneg h0]
theorem str_appendC (a b : List Int) : strOfNums a ++ strOfNums b = strOfNums (a ++ b) := by
  apply ByteArray.ext
  apply Array.ext'
  rw [ByteArray.data_append, Array.toList_append, strOfNums_data, strOfNums_data, strOfNums_data, List.map_append]
theorem lit_01 : (⟨#[48, 49]⟩ : ByteArray) = strOfNums [48, 49] := by
  apply ByteArray.ext
  apply Array.ext'
  rw [strOfNums_data]
  rfl
theorem low_in (n : Int) : ∀ k, ∀ v ∈ low n k, 48 ≤ v ∧ v ≤ 49 := by
  intro k
  induction k with
  | zero => intro v h; simp [low] at h
  | succ k ih =>
    intro v h
    rw [low, List.mem_cons] at h
    rcases h with rfl | h
    · exact dig_in n k
    · exact ih v h
theorem bits_ofC (l : List Int) (hl : l.length ≤ 400) (h : ∀ x ∈ l, 48 ≤ x ∧ x ≤ 49) : BitsP (strOfNums l) := by
  refine ⟨by rw [strOfNums_size]; exact hl, fun k hk => ?_⟩
  have hk2 : k < l.length := by rwa [strOfNums_size] at hk
  have hx := h l[k] (List.getElem_mem hk2)
  rw [get_bt _ k hk, bt_get (List.getElem?_eq_getElem hk2) (by omega) (by omega)]
  exact hx
/-- what the coin gives for one text, and for this text with more bits -/
def CoinP (Q P n x : Nat) (fc u : Int) (ok : Bool) (x2 u2 : Int) (ok2 : Bool) : Prop :=
  (ok = false ∧ cn Q n P x = -1 ∧ fc = 0 ∧ u = 0) ∨ (ok = true ∧ cn Q n P x = fc ∧ (fc = 0 ∨ fc = 1) ∧ 1 ≤ u ∧ u ≤ n ∧ ok2 = true ∧ x2 = fc ∧ u2 = u)
theorem coin_pack (P Q n x : Nat) (h : VF P Q) (h1 : P ≤ Q) (hn : n ≤ 8) : ∃ (fc u : Int) (ok : Bool) (x2 u2 : Int) (ok2 : Bool), CoinP Q P n x fc u ok x2 u2 ok2 ∧
    (∀ W : World, Calls Try.prog 23 #[.agg #[.int .i64 P, .int .i64 Q], .string (strOfNums (low (x : Int) n))] W fun e w' => e = .returned (.tuple #[.int .i64 fc, .int .i64 u, .bool ok]) ∧ Below W.heap.size W w') ∧
    (∀ W : World, Calls Try.prog 23 #[.agg #[.int .i64 P, .int .i64 Q], .string (strOfNums (low (x : Int) n) ++ ⟨#[48, 49]⟩)] W fun e w' => e = .returned (.tuple #[.int .i64 x2, .int .i64 u2, .bool ok2]) ∧ Below W.heap.size W w') := by
  have hsz : (strOfNums (low (x : Int) n)).size = n := by rw [strOfNums_size, low_length]
  have hs2 : strOfNums (low (x : Int) n) ++ (⟨#[48, 49]⟩ : ByteArray) = strOfNums (low (x : Int) n ++ [48, 49]) := by rw [lit_01, str_appendC]
  have hb2 : BitsP (strOfNums (low (x : Int) n ++ [48, 49])) := bits_ofC _ (by simp [low_length]; omega) fun v hv => by
    rw [List.mem_append] at hv
    rcases hv with hv | hv
    · exact low_in _ _ v hv
    · simp at hv; omega
  have hsz2 : (strOfNums (low (x : Int) n ++ [48, 49])).size = n + 2 := by rw [strOfNums_size, List.length_append, low_length]; rfl
  obtain ⟨x2, u2, ok2, hr2⟩ : ∃ x2 u2 ok2, coin (strOfNums (low (x : Int) n ++ [48, 49])) Q (n + 2) P 0 = (x2, u2, ok2) := ⟨_, _, _, rfl⟩
  have hC2 : ∀ W : World, Calls Try.prog 23 #[.agg #[.int .i64 P, .int .i64 Q], .string (strOfNums (low (x : Int) n) ++ ⟨#[48, 49]⟩)] W fun e w' => e = .returned (.tuple #[.int .i64 x2, .int .i64 u2, .bool ok2]) ∧ Below W.heap.size W w' := fun W => by
    rw [hs2]
    exact coin_yes P Q _ W h (by omega) (by omega) hb2 x2 u2 ok2 (by rw [hsz2]; exact hr2)
  have hbt : ∀ f, f < n → bt (strOfNums (low (x : Int) n)) (n - 1 - f) = 48 + ((x / 2 ^ f % 2 : Nat) : Int) := fun f hf => by
    rw [bt_low x n (n - 1 - f) (by omega), show n - 1 - (n - 1 - f) = f by omega]
  rcases coin_cn (strOfNums (low (x : Int) n)) Q x n hbt n P 0 (by omega) with ⟨g1, g2⟩ | ⟨g1, u, g2, g3, g4⟩
  · exact ⟨0, 0, false, x2, u2, ok2, .inl ⟨rfl, g1, rfl, rfl⟩, fun W => coin_yes P Q _ W h (by omega) (by omega) (low_bits x n (by omega)) 0 0 false (by rw [hsz]; exact g2), hC2⟩
  · have hm := coin_more (strOfNums (low (x : Int) n)) (strOfNums (low (x : Int) n ++ [48, 49])) Q n (fun i hi => by
      have hgi := low_get (x : Int) n i hi
      have hdi := dig_in (x : Int) (n - 1 - i)
      rw [bt_get (v := dig (x : Int) (n - 1 - i)) (by rw [List.getElem?_append_left (by rw [low_length]; exact hi)]; exact hgi) (by omega) (by omega), bt_get hgi (by omega) (by omega)]) 2 _ _ n P 0 (by omega) g4
    rw [hr2] at hm
    obtain ⟨m1, m2, m3⟩ : x2 = cn Q n P x ∧ u2 = (u : Int) ∧ ok2 = true := ⟨congrArg Prod.fst hm, congrArg (fun t => t.2.1) hm, congrArg (fun t => t.2.2) hm⟩
    exact ⟨cn Q n P x, u, true, x2, u2, ok2, .inr ⟨rfl, rfl, g1, by omega, by omega, m3, m1, m2⟩, fun W => coin_yes P Q _ W h (by omega) (by omega) (low_bits x n (by omega)) _ _ true (by rw [hsz]; exact g4), hC2⟩
end Go.Proofs.Ytamedggnkbhgeaa
