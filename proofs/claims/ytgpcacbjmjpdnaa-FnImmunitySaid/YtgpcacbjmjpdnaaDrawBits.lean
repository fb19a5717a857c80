/- The bits that a law draws: spec.B10Bits. -/
import Derived.Test.YtgpcacbjmjpdnaaSrc
import Derived.Test.YtgpcacbjmjpdnaaBytes
import Derived.Test.YtgpcacbjmjpdnaaOnly
namespace Go.Proofs.Ytgpcacbjmjpdnaa
open Go.RowKit Go.PlainAid
set_option maxHeartbeats 400000

theorem own_grow {w w1 : World} {B b : Nat} {e : TypeId} {size n : Nat} {v : Value} {xs : List Value} (h : w.ownsRow B e size v n xs) (hg : w.grownBy w1 (some b)) (hb : b < B) : w1.ownsRow B e size v n xs := by
  obtain ⟨h1, h2 | ⟨g, cap, cur, hv, hgB, hh, r⟩⟩ := h
  · exact ⟨h1, .inl h2⟩
  · refine ⟨h1, .inr ⟨g, cap, cur, hv, hgB, ?_, r⟩⟩
    have hlt : g < w.heap.size := (Array.getElem?_eq_some_iff.1 hh).1
    rw [hg.block g hlt (fun x => by simp at x; omega)]
    exact hh

/-- drawn bits -/
def Drawn (s : ByteArray) : Prop := s.size ≤ 40 ∧ AllIn 48 49 s
def DrawnPost (w : World) (e : Ending) (w' : World) : Prop := ∃ s : ByteArray, e = .returned (.string s) ∧ Drawn s ∧ Below w.heap.size w w'

theorem drawn_of (l : List Int) (hl : l.length ≤ 40) (h : ∀ x ∈ l, 48 ≤ x ∧ x ≤ 49) : Drawn (strOfNums l) := by
  refine ⟨by rw [strOfNums_size]; exact hl, fun k hk => ?_⟩
  rw [strOfNums_size] at hk
  have e : (strOfNums l)[k]'(by rw [strOfNums_size]; exact hk) = UInt8.ofNat (l[k]).toNat := by
    have h1 := strOfNums_data l
    have h2 : ((strOfNums l).data.toList)[k]? = some (UInt8.ofNat (l[k]).toNat) := by rw [h1]; simp [List.getElem?_eq_getElem hk]
    have h3 : (strOfNums l).data[k]? = some (UInt8.ofNat (l[k]).toNat) := by simpa using h2
    have := (Array.getElem?_eq_some_iff.1 h3).2
    exact this
  have hx := h l[k] (List.getElem_mem hk)
  rw [e]
  have : (UInt8.ofNat (l[k]).toNat).toNat = (l[k]).toNat := by
    simp
    omega
  omega

end Go.Proofs.Ytgpcacbjmjpdnaa
