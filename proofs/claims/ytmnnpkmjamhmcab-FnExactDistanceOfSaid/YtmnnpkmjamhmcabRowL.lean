/- Slices of int64 that are only read; the copy of one (laws.toInt64S). -/
import Derived.Test.YtmnnpkmjamhmcabSlice64
import Derived.Test.YtmnnpkmjamhmcabQTail
import Derived.Test.YtmnnpkmjamhmcabCycA
namespace Go.Proofs.Ytmnnpkmjamhmcab
open Go.RowKit Go.PlainAid
set_option maxHeartbeats 800000

/-- a slice that is only read: these numbers from its first cell on -/
def RO (top : Nat) (w : World) (a : Option Addr) (xs : List Int) : Prop := ∀ i x, xs[i]? = some x → ∃ g off, a = some ⟨g, off, none⟩ ∧ g < top ∧ w.cell? ⟨g, off + i, none⟩ = some (.int .i64 x)
theorem RO.below {top : Nat} {w w1 : World} {a : Option Addr} {xs : List Int} (h : RO top w a xs) (hb : Below top w w1) : RO top w1 a xs := fun i x hx => by
  obtain ⟨g, off, ha, hg, hc⟩ := h i x hx
  exact ⟨g, off, ha, hg, (hb.cell (p := ⟨g, off + i, none⟩) hg).trans hc⟩
theorem RO.up {top top' : Nat} {w : World} {a : Option Addr} {xs : List Int} (h : RO top w a xs) (ht : top ≤ top') : RO top' w a xs := fun i x hx => by
  obtain ⟨g, off, ha, hg, hc⟩ := h i x hx
  exact ⟨g, off, ha, by omega, hc⟩
theorem RO.drewN {top : Nat} {w : World} {a : Option Addr} {xs : List Int} (h : RO top w a xs) (n : Nat) : RO top (w.drewN n) a xs := h
theorem own_belowO {w w1 : World} {B : Nat} {e : TypeId} {size n : Nat} {v : Value} {xs : List Value} (h : w.ownsRow B e size v n xs) (hb : Below w.heap.size w w1) : w1.ownsRow B e size v n xs := by
  obtain ⟨h1, h2 | ⟨g, cap, cur, hv, hg, hc, r⟩⟩ := h
  · exact ⟨h1, .inl h2⟩
  · exact ⟨h1, .inr ⟨g, cap, cur, hv, hg, by rw [hb.block g (Array.getElem?_eq_some_iff.1 hc).1]; exact hc, r⟩⟩
theorem SL.ro {base top : Nat} {w : World} {v : Value} {xs : List Int} (h : SL base top w v xs) : ∃ a cap, v = .slice a xs.length cap ∧ RO top w a xs := by
  rcases h with ⟨rfl, rfl⟩ | ⟨g, cap, rfl, _, _, hg, hc, _⟩
  · exact ⟨none, 0, rfl, fun i x hx => by simp at hx⟩
  · refine ⟨_, cap, rfl, fun i x hx => ?_⟩
    obtain ⟨hi, hx⟩ := List.getElem?_eq_some_iff.1 hx
    exact ⟨g, 0, rfl, hg, by rw [Nat.zero_add, hc i hi, hx]⟩

theorem toInt64S_any (a : Option Addr) (n cap : Nat) (xs : List Int) (w : World) (h : RO w.heap.size w a xs) (hn : xs.length = n) (hl : n ≤ 1048576) :
    Calls Try.prog 67 #[.slice a n cap] w fun e w' => ∃ v, e = .returned v ∧ w'.ownsRow w.heap.size 2 1 v n (xs.map (Value.int .i64)) ∧ Below w.heap.size w w' := by
  obtain ⟨i0, hi, hz0, hz1, hz2⟩ := info_parts Try.info2
  have HR := Lib.hid h
  have hlen := Lib.hid hn
  clear h hn
  go_enter Try.func67, Try.ntmps67
  go_wp2_with (at_make; refine wpList_make_full _ rfl _ _ 33 rfl w.heap.size 2 i0 _ 1 Try.underlying33 hi hz0 hz1 _ _ _ _ n rfl rfl rfl rfl (by rw [hz2]; omega) (by unfold maxLen; omega) (Nat.le_refl _) ?_; intro w3 hown hgrow)
  have hown3 : w3.ownsRow w.heap.size 2 1 (.slice (some ⟨w.heap.size, 0, none⟩) n n) n ((pad (xs.take 0) n).map (Value.int .i64)) := by rw [pad_made] at hown; exact hown
  have B3 : Hid (Below w.heap.size w w3) := (Below.refl w.heap.size w).grown hgrow (Nat.le_refl _) (by simp)
  clear hown hgrow
  go_loopw [4] (fun iv wr => ∃ k : Nat, k ≤ n ∧ iv = .int .i64 k ∧ wr.ownsRow w.heap.size 2 1 (.slice (some ⟨w.heap.size, 0, none⟩) n n) n ((pad (xs.take k) n).map (Value.int .i64)) ∧ Hid (Below w.heap.size w wr)) (fun iv _ => n - (intOf iv).toNat)
  case atStart => exact ⟨0, Nat.zero_le _, rfl, hown3, B3⟩
  case round =>
    obtain ⟨k, hk, rfl, hown, HB⟩ := hrel
    clear hown3 B3
    have hl2 : (xs.take k).length = k := by rw [List.length_take]; have := hlen.out; omega
    by_cases hlt : k < n
    · have hkx : k < xs.length := by have := hlen.out; omega
      obtain ⟨x, hx⟩ : ∃ x, xs[k]? = some x := ⟨_, List.getElem?_eq_getElem hkx⟩
      obtain ⟨g, off, rfl, hg, hc⟩ := HR.out k x hx
      have hc2 := (HB.out.cell (p := ⟨g, off + k, none⟩) hg).trans hc
      have hT : Hid (xs.take (k + 1) = xs.take k ++ [x]) := by
        unfold Hid
        rw [List.take_add_one, hx]
        rfl
      obtain ⟨hd, hf⟩ := own_next hown hl2 hlt
      have HO := Lib.hid (own_step hown hl2 hlt x)
      have HB2 : Hid (Below w.heap.size w (wr.setCell ⟨w.heap.size, k, none⟩ (.int .i64 x))) := HB.out.setCell (p := ⟨w.heap.size, k, none⟩) (Nat.le_refl _) _
      clear hown HB hc hx hkx hl2
      go_wp2
      go_roundw
      case rel => exact ⟨k + 1, by omega, by go_num, by rw [hT.out]; exact HO.out, HB2⟩
      case measure => simp [intOf]; omega
    · obtain rfl : k = n := by omega
      have hp : Hid (pad (xs.take k) k = xs) := by
        unfold Hid
        have h1 := pad_full (xs.take k)
        rw [hl2] at h1
        rw [h1, List.take_of_length_le (by have := hlen.out; omega)]
      rw [hp.out] at hown
      have HO := Lib.hid hown
      clear hown
      go_wp2
      go_ret
      exact ⟨_, rfl, HO.out, HB.out⟩
end Go.Proofs.Ytmnnpkmjamhmcab
