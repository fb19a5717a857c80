/- Slices of fractions in the laws: laws.szFractionS, toFractionS, eqFractionS. -/
import Derived.Test.YtmnnpkmjamhmcabFrRow
import Derived.OwnWalk
import Derived.Laws.OwnMore
namespace Go.Proofs.Ytmnnpkmjamhmcab
open Go.RowKit Go.PlainAid
set_option maxHeartbeats 800000

/-- a row of n fractions in block g, whose first k are those of xs -/
def FRow (w : World) (g n k : Nat) (xs : List (Int × Int)) : Prop :=
  (∀ i, i < n → ∃ x y : Int, w.cell? ⟨g, i * 2, none⟩ = some (.int .i64 x) ∧ w.cell? ⟨g, i * 2 + 1, none⟩ = some (.int .i64 y) ∧ (i < k → xs[i]? = some (x, y))) ∧ ∀ j, w.frozen? ⟨g, j, none⟩ = false
theorem FRow.far {w w1 : World} {g n k : Nat} {xs : List (Int × Int)} (h : FRow w g n k xs) (hg : g < w.heap.size) (hb : Below w.heap.size w w1) : FRow w1 g n k xs := by
  refine ⟨fun i hi => ?_, fun j => (hb.frozen (p := ⟨g, j, none⟩) hg).trans (h.2 j)⟩
  obtain ⟨x, y, h1, h2, h3⟩ := h.1 i hi
  exact ⟨x, y, (hb.cell (p := ⟨g, i * 2, none⟩) hg).trans h1, (hb.cell (p := ⟨g, i * 2 + 1, none⟩) hg).trans h2, h3⟩
theorem FRow.step {w : World} {g n k : Nat} {xs : List (Int × Int)} (h : FRow w g n k xs) (hk : k < n) {x y : Int} (hx : xs[k]? = some (x, y)) :
    FRow ((w.setCell ⟨g, k * 2, none⟩ (.int .i64 x)).setCell ⟨g, k * 2 + 1, none⟩ (.int .i64 y)) g n (k + 1) xs := by
  refine ⟨fun i hi => ?_, fun j => by simp only [World.frozen?_setCell]; exact h.2 j⟩
  obtain ⟨x0, y0, h1, h2, h3⟩ := h.1 i hi
  by_cases e : i = k
  · subst e
    refine ⟨x, y, ?_, ?_, fun _ => hx⟩
    · rw [cell_otherD (addr_neD (by omega))]; exact World.cell?_setCell_same _ _ _ h1
    · exact World.cell?_setCell_same _ _ _ ((cell_otherD (addr_neD (by omega))).trans h2)
  · refine ⟨x0, y0, ?_, ?_, fun hi2 => h3 (by omega)⟩
    · rw [cell_otherD (addr_neD (by omega)), cell_otherD (addr_neD (by omega))]; exact h1
    · rw [cell_otherD (addr_neD (by omega)), cell_otherD (addr_neD (by omega))]; exact h2
theorem FRow.full {w : World} {g n : Nat} {xs : List (Int × Int)} (h : FRow w g n n xs) (hl : xs.length = n) : FIn w (some ⟨g, 0, none⟩) n xs := by
  refine ⟨hl, .inr ⟨g, 0, rfl, fun i hi => ?_⟩⟩
  obtain ⟨x, y, h1, h2, h3⟩ := h.1 i (by omega)
  have := h3 (by omega)
  rw [List.getElem?_eq_getElem hi] at this
  have e := Option.some.inj this
  rw [e, Nat.zero_add]
  exact ⟨h1, h2⟩
theorem FRow.made {w : World} {base g n cap : Nat} {e : TypeId} {xs : List (Int × Int)} (h : w.ownsRow base e 2 (.slice (some ⟨g, 0, none⟩) n cap) n (madeCells #[.int .i64 0, .int .i64 0] (n * 2)).toList) : FRow w g n 0 xs := by
  have hc : ∀ j, j < n * 2 → w.cell? ⟨g, j, none⟩ = some (.int .i64 0) := fun j hj => by
    rw [h.cellAt j hj, Array.getElem?_toList]
    unfold madeCells
    rw [Array.getElem?_map, Array.getElem?_range]
    have : j % 2 = 0 ∨ j % 2 = 1 := by omega
    rcases this with h | h <;> simp [hj, h]
  exact ⟨fun i hi => ⟨0, 0, hc _ (by omega), hc _ (by omega), fun h => absurd h (by omega)⟩, fun j => h.frozenAt j⟩

theorem toFrS_any (a : Option Addr) (n cap : Nat) (xs : List (Int × Int)) (w : World) (hx : FIn w a n xs) (hn : n ≤ 1048576) :
    Calls Try.prog 41 #[.slice a n cap] w fun e w' => ∃ g, e = .returned (.slice (some ⟨g, 0, none⟩) n n) ∧ FIn w' (some ⟨g, 0, none⟩) n xs ∧ w.heap.size ≤ g ∧ Below w.heap.size w w' := by
  obtain ⟨i0, hi, hz0, hz1, hz2⟩ : ∃ i, Try.prog.info? 27 = some i ∧ i.zero = some (.agg #[.int .i64 0, .int .i64 0]) ∧ i.size = 2 ∧ i.bytes = 16 := info_parts (by kernel_rfl)
  have HX := Lib.hid hx
  have hl := hx.1
  clear hx
  have HT : Hid (∀ (n d : Int) (W : World), Calls Try.prog 84 #[.agg #[.int .i64 n, .int .i64 d]] W fun e w' => e = .returned (.agg #[.int .i64 n, .int .i64 d]) ∧ Below W.heap.size W w') := fun n d W => toFrac_any n d W
  go_enter Try.func41, Try.ntmps41
  go_wp2_with (at_make; refine wpList_make_full _ rfl _ _ 30 rfl w.heap.size 27 i0 _ 2 Try.underlying30 hi hz0 hz1 _ _ _ _ n rfl rfl rfl rfl (by rw [hz2]; omega) (by unfold maxLen; omega) (Nat.le_refl _) ?_; intro w3 hown hgrow)
  have HR : FRow w3 w.heap.size n 0 xs := FRow.made (cap := n) (by simpa [Value.cells] using hown)
  have hbel3 : Below w.heap.size w w3 := (Below.refl _ w).grown hgrow (Nat.le_refl _) (by simp)
  have hz : w.heap.size < w3.heap.size := (hown.lt _ rfl).2
  clear hown hgrow
  go_loopw [4] (fun i wr => ∃ k : Nat, k ≤ n ∧ i = .int .i64 k ∧ Hid (FRow wr w.heap.size n k xs) ∧ w.heap.size < wr.heap.size ∧ Below w.heap.size w wr) (fun i _ => n - (intOf i).toNat)
  case atStart => exact ⟨0, Nat.zero_le _, rfl, HR, hz, hbel3⟩
  case round =>
    clear HR hz hbel3
    obtain ⟨k, hk, rfl, HR, hz, hbel⟩ := hrel
    by_cases hlt : k < n
    · obtain ⟨b', o, x, y, rfl, hxy, c0, c1, hadd⟩ := (HX.out.far hbel).at hlt
      have HXY := Lib.hid hxy
      clear hxy
      go_wp2_with fail
      refine (HT.out _ _ _).mono ?_
      rintro e w4 ⟨rfl, hb⟩
      have HR2 := Lib.hid (HR.out.far hz hb)
      have hz2' : w.heap.size < w4.heap.size := Nat.lt_of_lt_of_le hz hb.size
      have hbel2 := hbel.trans (hb.mono hbel.size)
      clear hb hbel hz HR c0 c1
      obtain ⟨x0, y0, d0, d1, _⟩ := HR2.out.1 k hlt
      have f0 := HR2.out.2 (k * 2)
      have f1 := HR2.out.2 (k * 2 + 1)
      have hadd2 : (⟨w.heap.size, 0, none⟩ : Addr).add (k * 2) = ⟨w.heap.size, k * 2, none⟩ := by
        unfold Addr.add
        split
        · next h => rw [h]
        · simp
      have HS := Lib.hid (HR2.out.step hlt HXY.out)
      have HB := Lib.hid ((hbel2.setCell (p := ⟨w.heap.size, k * 2, none⟩) (Nat.le_refl _) (.int .i64 x)).setCell (p := ⟨w.heap.size, k * 2 + 1, none⟩) (Nat.le_refl _) (.int .i64 y))
      clear hbel2
      go_wp2
      go_roundw
      case rel => exact ⟨k + 1, by omega, by go_num, HS.out, by simpa [World.setCell] using hz2', HB.out⟩
      case measure => first | (simp [intOf]; done) | (simp [intOf]; omega)
    · obtain rfl : k = n := by omega
      go_wp2
      go_ret
      exact ⟨_, rfl, HR.out.full hl, Nat.le_refl _, hbel⟩
end Go.Proofs.Ytmnnpkmjamhmcab
