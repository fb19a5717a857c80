/- The bits that a law draws: spec.B10Bits. -/
import Derived.Test.YtapccbplmbbnnabSrc
import Derived.Test.YtapccbplmbbnnabBytes
import Derived.Test.YtapccbplmbbnnabOnly
namespace Go.Proofs.Ytapccbplmbbnnab
open Go.RowKit Go.PlainAid
set_option maxHeartbeats 400000

theorem own_grow {w w1 : World} {B b : Nat} {e : TypeId} {size n : Nat} {v : Value} {xs : List Value} (h : w.ownsRow B e size v n xs) (hg : w.grownBy w1 (some b)) (hb : b < B) : w1.ownsRow B e size v n xs := by
  obtain ⟨h1, h2 | ⟨g, cap, cur, hv, hgB, hh, r⟩⟩ := h
  · exact ⟨h1, .inl h2⟩
  · refine ⟨h1, .inr ⟨g, cap, cur, hv, hgB, ?_, r⟩⟩
    have hlt : g < w.heap.size := (Array.getElem?_eq_some_iff.1 hh).1
    rw [hg.block g hlt (fun x => by simp at x; omega)]
    exact hh

/-- drawn bits -/
def Drawn (s : ByteArray) : Prop := s.size ≤ 40 ∧ AllIn 48 49 s
def DrawnPost (w : World) (e : Ending) (w' : World) : Prop := ∃ s : ByteArray, e = .returned (.string s) ∧ Drawn s ∧ Below w.heap.size w w'

theorem drawn_of (l : List Int) (hl : l.length ≤ 40) (h : ∀ x ∈ l, 48 ≤ x ∧ x ≤ 49) : Drawn (strOfNums l) := by
  refine ⟨by rw [strOfNums_size]; exact hl, fun k hk => ?_⟩
  rw [strOfNums_size] at hk
  have e : (strOfNums l)[k]'(by rw [strOfNums_size]; exact hk) = UInt8.ofNat (l[k]).toNat := by
    have h1 := strOfNums_data l
    have h2 : ((strOfNums l).data.toList)[k]? = some (UInt8.ofNat (l[k]).toNat) := by rw [h1]; simp [List.getElem?_eq_getElem hk]
    have h3 : (strOfNums l).data[k]? = some (UInt8.ofNat (l[k]).toNat) := by simpa using h2
    have := (Array.getElem?_eq_some_iff.1 h3).2
    exact this
  have hx := h l[k] (List.getElem_mem hk)
  rw [e]
  have : (UInt8.ofNat (l[k]).toNat).toNat = (l[k]).toNat := by
    simp
    omega
  omega

theorem drawBits_any (a : Option Addr) (len cap : Nat) (w : World) (hC : Code w w.heap.size a len) (hl : len ≤ 1048576) :
    Calls Try.prog 16 #[.slice a len cap] w (DrawnPost w) := by
  obtain ⟨i0, hi, hz0, hz1, hz2⟩ := info_parts Try.info5
  have HC := Lib.hid hC
  clear hC
  go_enter Try.func16, Try.ntmps16
  go_wp2_with fail
  refine (from_any a len cap _ HC.out).mono ?_
  rintro e w1 ⟨rfl, hs1, hb1⟩
  have hz : w.heap.size < w1.heap.size := by
    obtain ⟨_, _, k, s, _, _, _, c0, _⟩ := hs1
    have := World.block_lt_of_cell? w1 _ c0
    exact this
  have S1 := Lib.hid (hs1.below ((Below.refl (w.heap.size + 1) w1).alloc hz (.cells #[] 5)))
  clear hs1
  have O1 := Lib.hid (ownsRow_empty w1 5 1)
  have B1 := Lib.hid (hb1.alloc hb1.size (.cells #[] 5))
  clear hb1
  go_wp2_with fail
  refine (pick_any w.heap.size w.heap.size a len cap 0 41 _ S1.out (by omega) hl (by omega) (by omega)).mono ?_
  rintro e w2 ⟨x, rfl, ⟨x0, x1⟩, hs2, hg2⟩
  have hzw2 : w1.heap.size ≤ w2.heap.size := by have := hg2.size; simp at this; omega
  have S2 := Lib.hid hs2
  have O2 := Lib.hid (own_grow O1.out hg2 hz)
  have B2 := Lib.hid (B1.out.grown hg2 (B1.out.size) (by simp))
  clear hs2 hg2 S1 O1 B1
  obtain ⟨N, rfl⟩ := Int.eq_ofNat_of_zero_le x0
  go_wp2
  go_loopw [4, 5, 6] (fun v bit kv wr => ∃ (l : List Int) (c : Int) (j : Nat), kv = .int .i64 j ∧ bit = .int .u8 c ∧ 48 ≤ c ∧ c ≤ 49 ∧ Hid (l.length + j ≤ 40) ∧ Hid (∀ x ∈ l, 48 ≤ x ∧ x ≤ 49) ∧ Hid (Src w.heap.size wr w.heap.size a len cap (1000 - 4 * j)) ∧ w1.heap.size ≤ wr.heap.size ∧ wr.ownsRow w1.heap.size 5 1 v l.length (l.map (Value.int .u8)) ∧ Below w.heap.size w wr) (fun _ _ kv _ => (intOf kv).toNat)
  case atStart => exact ⟨[], 48, N, rfl, rfl, by omega, by omega, by unfold Hid; simp; omega, by intro x hx; simp at hx, S2.out.more (by omega), hzw2, O2.out, B2.out⟩
  case round =>
    obtain ⟨l, c, j, rfl, rfl, hc0, hc1, hlj, hall, hsrc, hzw, hown, hbel⟩ := hrel
    by_cases hj : 0 < j
    · have hj40 : j ≤ 40 := by have := hlj.out; omega
      go_wp2_with fail
      refine (one_any w.heap.size w.heap.size a len cap _ 2 _ hsrc.out (by omega) hl (by omega) (by omega)).mono ?_
      rintro e w3 ⟨v, rfl, hs3, hg3⟩
      have hg3z := hg3.size
      have S3 := Lib.hid hs3
      have O3 := Lib.hid (own_grow hown hg3 hz)
      have B3 := Lib.hid (hbel.grown hg3 hbel.size (by simp))
      clear hs3 hg3 hsrc hown hbel
      have hzx : w1.heap.size ≤ w3.heap.size := Nat.le_trans hzw hg3z
      cases v
      · go_wp2_with (at_builtin; refine wpList_append_own _ rfl _ _ 22 rfl w1.heap.size 5 i0 (.int .u8 0) 1 1 Try.underlying22 hi hz0 hz1 hz2 rfl (by decide) _ _ _ rfl (O3.out.alloc _) ⟨w3.heap.size, 0, none⟩ 1 1 [.int .u8 c] rfl rfl (cell_one_new _ _ _) (by intro u hu; simp at hu; subst hu; rfl) (by have := hlj.out; unfold maxLen; omega) (by have := hlj.out; omega) (by simp; omega) ?_; intro v1 w6 hown6 hgrow6 _)
        have hz6 : w1.heap.size ≤ w6.heap.size := by have := hgrow6.size; simp at this; omega
        have HB : Hid (Below w.heap.size w w6) := (B3.out.alloc B3.out.size _).grown hgrow6 (by have := B3.out.size; simp; omega) (fun y hy => by have := own_block O3.out y hy; omega)
        have HS6 : Hid (Src w.heap.size w6 w.heap.size a len cap (1000 - 4 * (j - 1))) := by
          refine (S3.out.more (by omega)).below (((Below.refl (w.heap.size + 1) w3).alloc (by omega) _).grown hgrow6 (by simp; omega) (fun y hy => ?_))
          have := own_block O3.out y hy
          omega
        have HO6 : Hid (w6.ownsRow w1.heap.size 5 1 v1 (l ++ [c]).length ((l ++ [c]).map (Value.int .u8))) := by
          unfold Hid
          simpa using hown6
        have HL6 : Hid ((l ++ [c]).length + (j - 1) ≤ 40) := by have := hlj.out; unfold Hid; simp; omega
        have HA6 : Hid (∀ x ∈ l ++ [c], 48 ≤ x ∧ x ≤ 49) := by
          intro x hx
          rcases List.mem_append.1 hx with hx | hx
          · exact hall.out x hx
          · simp at hx; subst hx; omega
        clear hown6 hgrow6 O3 S3 B3
        go_wp2
        go_roundw
        case rel => exact ⟨l ++ [c], c, j - 1, by go_num, rfl, by omega, by omega, HL6, HA6, HS6, hz6, HO6.out, HB.out⟩
        case measure => simp [intOf]; omega
      · go_wp2_with fail
        refine (pick_any w.heap.size w.heap.size a len cap _ 2 _ S3.out (by omega) hl (by omega) (by omega)).mono ?_
        rintro e w4 ⟨y, rfl, ⟨y0, y1⟩, hs4, hg4⟩
        have hg4z := hg4.size
        have hzy : w1.heap.size ≤ w4.heap.size := Nat.le_trans hzx hg4z
        have S4 := Lib.hid hs4
        have O4 := Lib.hid (own_grow O3.out hg4 hz)
        have B4 := Lib.hid (B3.out.grown hg4 B3.out.size (by simp))
        clear hs4 hg4 S3 O3 B3
        go_wp2_with (at_builtin; refine wpList_append_own _ rfl _ _ 22 rfl w1.heap.size 5 i0 (.int .u8 0) 1 1 Try.underlying22 hi hz0 hz1 hz2 rfl (by decide) _ _ _ rfl (O4.out.alloc _) ⟨w4.heap.size, 0, none⟩ 1 1 [.int .u8 (48 + y)] rfl rfl (cell_one_new _ _ _) (by intro u hu; simp at hu; subst hu; rfl) (by have := hlj.out; unfold maxLen; omega) (by have := hlj.out; omega) (by simp; omega) ?_; intro v1 w6 hown6 hgrow6 _)
        have hz6 : w1.heap.size ≤ w6.heap.size := by have := hgrow6.size; simp at this; omega
        have HB : Hid (Below w.heap.size w w6) := (B4.out.alloc B4.out.size _).grown hgrow6 (by have := B4.out.size; simp; omega) (fun y hy => by have := own_block O4.out y hy; omega)
        have HS6 : Hid (Src w.heap.size w6 w.heap.size a len cap (1000 - 4 * (j - 1))) := by
          refine (S4.out.more (by omega)).below (((Below.refl (w.heap.size + 1) w4).alloc (by omega) _).grown hgrow6 (by simp; omega) (fun y hy => ?_))
          have := own_block O4.out y hy
          omega
        have HO6 : Hid (w6.ownsRow w1.heap.size 5 1 v1 (l ++ [(48 + y)]).length ((l ++ [(48 + y)]).map (Value.int .u8))) := by
          unfold Hid
          simpa using hown6
        have HL6 : Hid ((l ++ [(48 + y)]).length + (j - 1) ≤ 40) := by have := hlj.out; unfold Hid; simp; omega
        have HA6 : Hid (∀ x ∈ l ++ [(48 + y)], 48 ≤ x ∧ x ≤ 49) := by
          intro x hx
          rcases List.mem_append.1 hx with hx | hx
          · exact hall.out x hx
          · simp at hx; subst hx; omega
        clear hown6 hgrow6 O4 S4 B4
        go_wp2
        go_roundw
        case rel => exact ⟨l ++ [(48 + y)], (48 + y), j - 1, by go_num, rfl, by omega, by omega, HL6, HA6, HS6, hz6, HO6.out, HB.out⟩
        case measure => simp [intOf]; omega
    · obtain rfl : j = 0 := by omega
      have hcv := conv_own (P := Try.prog) (dst := 9) Try.underlying22 Try.underlying5 Try.underlying9 hown
      clear hown
      go_wp2
      go_ret
      exact ⟨_, rfl, drawn_of l (by have := hlj.out; omega) hall.out, hbel⟩
end Go.Proofs.Ytapccbplmbbnnab
