/- A circle of bits, unrolled twice: impl.unrolled. -/
import Derived.Test.YtapccbplmbbnnacBytes
import Derived.Test.YtapccbplmbbnnacPolyMul
import Derived.Lib.BufferWrite
import Derived.Laws.CopyOwn
import Derived.Laws.Tables
namespace Go.Proofs.Ytapccbplmbbnnac
open Go.RowKit Go.PlainAid
set_option maxHeartbeats 400000

/-- the bytes of a text as numbers -/
def numsOf (s : ByteArray) : List Int := s.data.toList.map fun x => (x.toNat : Int)
theorem numsOf_length (s : ByteArray) : (numsOf s).length = s.size := by
  unfold numsOf
  rw [List.length_map, Array.length_toList]
  rfl
/-- the row so far -/
def rowCells (l : List Int) (N : Nat) (cur : Array Value) : Prop := cur.toList = (pad l N).map (Value.int .u8)
theorem pad_length (l : List Int) (N : Nat) (h : l.length ≤ N) : (pad l N).length = N := by simp [pad]; omega
theorem rowCells_size {l : List Int} {N : Nat} {cur : Array Value} (h : rowCells l N cur) (hl : l.length ≤ N) : cur.size = N := by
  have e := congrArg List.length h
  rw [Array.length_toList, List.length_map, pad_length l N hl] at e
  exact e
theorem rowCells_copy {l : List Int} {N : Nat} {cur : Array Value} (s : ByteArray) (h : rowCells l N cur) (hl : l.length + s.size ≤ N) :
    rowCells (l ++ numsOf s) N (cur.toList.take l.length ++ Lib.byteCells s.data.toList ++ cur.toList.drop (l.length + s.size)).toArray := by
  unfold rowCells at h ⊢
  have hb : Lib.byteCells s.data.toList = (numsOf s).map (Value.int .u8) := by
    unfold Lib.byteCells numsOf
    rw [List.map_map]
    rfl
  rw [h, hb]
  unfold pad
  have hn := numsOf_length s
  have h1 : List.take l.length (List.map (Value.int IntKind.u8) (l ++ List.replicate (N - l.length) 0)) = l.map (Value.int .u8) := by
    rw [List.map_append, List.take_append_of_le_length (by simp), List.take_of_length_le (by simp)]
  have h2 : List.drop (l.length + s.size) (List.map (Value.int IntKind.u8) (l ++ List.replicate (N - l.length) 0)) = List.replicate (N - (l ++ numsOf s).length) (Value.int .u8 0) := by
    rw [List.map_append, List.drop_append, List.drop_eq_nil_of_le (by simp), List.nil_append, List.length_map, List.map_replicate, List.drop_replicate]
    congr 1
    rw [List.length_append, hn]
    omega
  rw [h1, h2]
  simp [List.map_append]

/-- two rounds of a circle -/
def twice (s : ByteArray) : ByteArray := strOfNums (numsOf s ++ numsOf s)
theorem own_of_row {w : World} {g : Nat} {N : Nat} {l : List Int} {cur : Array Value} (h : w.heap[g]? = some (.cells cur 5 (0, 0))) (hr : rowCells l N cur) (hl : l.length = N) (hN : N ≤ 1000) : w.ownsRow g 5 1 (.slice (some ⟨g, 0, none⟩) N N) N (l.map (Value.int .u8)) := by
  have hs := rowCells_size hr (by omega)
  subst hl
  unfold rowCells at hr
  rw [pad_full] at hr
  refine ⟨by simp, .inr ⟨g, l.length, cur, rfl, Nat.le_refl _, h, Nat.le_refl _, by unfold maxLen; omega, by omega, ?_⟩⟩
  rw [hr]
  exact List.take_of_length_le (by simp)
theorem unrolled_any (s : ByteArray) (N : Nat) (w : World) (h0 : 0 < s.size) (h1 : s.size ≤ 400) (hN : N = 2 * s.size) :
    Calls Try.prog 29 #[.string s, .int .i64 N] w fun e w' => e = .returned (.string (twice s)) ∧ Below w.heap.size w w' := by
  obtain ⟨i0, hi, hz0, hz1, hz2⟩ := info_parts Try.info5
  have hN1 : N ≤ 800 := by omega
  have hN2 : s.size ≤ N := by omega
  have HN := Lib.hid hN
  clear hN
  have hcopy : ∀ (wr : World) (F : Nat) (cur : Array Value), F + s.size ≤ N → wr.heap[w.heap.size]? = some (.cells cur 5 (0, 0)) → cur.size = N →
      (Builtin.copy_ #[28, 9] 3 #[.slice (some ⟨w.heap.size, F, none⟩) (N - F) (N - F), .string s]).run Try.prog wr = .ok (goInt s.size) (wr.setRow w.heap.size (cur.toList.take F ++ Lib.byteCells s.data.toList ++ cur.toList.drop (F + s.size)).toArray) :=
    fun wr F cur hF hc hs => Lib.run_copy_row_string wr 28 9 3 5 w.heap.size F (N - F) (N - F) s cur 5 Try.underlying28 (by rw [hi]; simp [hz1]) hc (by omega) (by omega)
  have hcopy := Lib.hid hcopy
  go_enter Try.func29, Try.ntmps29
  go_wp2_with (at_make; refine wpList_make_full _ rfl _ _ 28 rfl w.heap.size 5 i0 _ 1 Try.underlying28 hi hz0 hz1 _ _ _ _ N rfl rfl rfl rfl (by rw [hz2]; omega) (by unfold maxLen; omega) (Nat.le_refl _) ?_; intro w3 hown hgrow)
  have hb3 : Below w.heap.size w w3 := (Below.refl _ _).grown hgrow (Nat.le_refl _) (by simp)
  have hrow : ∃ cur, w3.heap[w.heap.size]? = some (.cells cur 5 (0, 0)) ∧ rowCells [] N cur := by
    rw [pad_made] at hown
    obtain ⟨_, ⟨hv, _⟩ | ⟨g, cap, cur, hv, hg, hh, g1, g2, g3, g4⟩⟩ := hown
    · cases hv
    · simp at hv
      obtain ⟨⟨rfl⟩, rfl⟩ := hv
      refine ⟨cur, hh, ?_⟩
      unfold rowCells
      rw [← g4, List.take_of_length_le (by rw [Array.length_toList]; omega)]
  have hrow := Lib.hid hrow
  clear hown hgrow
  go_loopw [6] (fun i wr => ∃ (F : Nat) (l : List Int) (cur : Array Value), F ≤ N ∧ i = .int .i64 F ∧ Hid (l.length = F ∧ ((F = 0 ∧ l = []) ∨ (F = s.size ∧ l = numsOf s) ∨ (F = N ∧ l = numsOf s ++ numsOf s))) ∧ Hid (wr.heap[w.heap.size]? = some (.cells cur 5 (0, 0)) ∧ rowCells l N cur) ∧ Below w.heap.size w wr) (fun i _ => N - (intOf i).toNat)
  case atStart =>
    obtain ⟨cur, g1, g2⟩ := hrow.out
    exact ⟨0, [], cur, Nat.zero_le _, rfl, ⟨rfl, .inl ⟨rfl, rfl⟩⟩, ⟨g1, g2⟩, hb3⟩
  case round =>
    obtain ⟨F, l, cur, hF, rfl, HL, HR, hbel⟩ := hrel
    clear hb3 hrow
    by_cases hlt : F < N
    · have hF2 : F + s.size ≤ N := by
        have h2 := HN.out
        rcases HL.out.2 with ⟨a, _⟩ | ⟨a, _⟩ | ⟨a, _⟩ <;> omega
      have hne : ¬ N = F := by omega
      have hcp := hcopy.out wr F cur hF2 HR.out.1 (rowCells_size HR.out.2 (by have := HL.out.1; omega))
      have HR2 : Hid ((wr.setRow w.heap.size (cur.toList.take F ++ Lib.byteCells s.data.toList ++ cur.toList.drop (F + s.size)).toArray).heap[w.heap.size]? = some (.cells (cur.toList.take F ++ Lib.byteCells s.data.toList ++ cur.toList.drop (F + s.size)).toArray 5 (0, 0)) ∧ rowCells (l ++ numsOf s) N (cur.toList.take F ++ Lib.byteCells s.data.toList ++ cur.toList.drop (F + s.size)).toArray) := by
        have := rowCells_copy s HR.out.2 (by have := HL.out.1; omega)
        rw [HL.out.1] at this
        exact ⟨setRow_heap wr w.heap.size cur _ 5 (0, 0) HR.out.1, this⟩
      have HB2 : Hid (Below w.heap.size w (wr.setRow w.heap.size (cur.toList.take F ++ Lib.byteCells s.data.toList ++ cur.toList.drop (F + s.size)).toArray)) := below_setRow hbel (Nat.le_refl _) _
      have HL2 : Hid ((l ++ numsOf s).length = F + s.size ∧ ((F + s.size = 0 ∧ l ++ numsOf s = []) ∨ (F + s.size = s.size ∧ l ++ numsOf s = numsOf s) ∨ (F + s.size = N ∧ l ++ numsOf s = numsOf s ++ numsOf s))) := by
        have h2 := HN.out
        refine ⟨by rw [List.length_append, numsOf_length, HL.out.1], ?_⟩
        rcases HL.out.2 with ⟨a, e⟩ | ⟨a, e⟩ | ⟨a, e⟩
        · exact .inr (.inl ⟨by omega, by rw [e]; rfl⟩)
        · exact .inr (.inr ⟨by omega, by rw [e]⟩)
        · omega
      obtain ⟨nx, hnx⟩ : ∃ x, (cur.toList.take F ++ Lib.byteCells s.data.toList ++ cur.toList.drop (F + s.size)).toArray = x := ⟨_, rfl⟩
      rw [hnx] at hcp HR2 HB2
      clear hnx
      go_wp2
      go_roundw
      case rel => exact ⟨F + s.size, l ++ numsOf s, nx, by omega, by go_num, HL2.out, HR2.out, HB2.out⟩
      case measure => simp [intOf]; omega
    · obtain rfl : F = N := by omega
      have hl : l = numsOf s ++ numsOf s := by
        have h2 := HN.out
        rcases HL.out.2 with ⟨a, _⟩ | ⟨a, _⟩ | ⟨_, a⟩
        · omega
        · omega
        · exact a
      have hown := own_of_row HR.out.1 HR.out.2 (by have := HL.out.1; omega) (by omega)
      rw [hl] at hown
      have hcv := conv_own (P := Try.prog) (dst := 9) Try.underlying28 Try.underlying5 Try.underlying9 hown
      clear hown hl
      go_wp2
      go_ret
      exact ⟨rfl, hbel⟩
end Go.Proofs.Ytapccbplmbbnnac
