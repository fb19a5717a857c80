/- Where bits differ: impl.XorBits, spec.l01Xor, spec.XorBits, and the law FnExactXorBits. -/
import Derived.Test.YtapccbplmbbnnabBits
import Derived.Test.YtapccbplmbbnnabBytes
import Derived.Deep.RegionHeld3
import Derived.Deep.AppendLies
import Derived.Laws.Pointers
namespace Go.Proofs.Ytapccbplmbbnnab
open Go.RowKit Go.PlainAid
set_option maxHeartbeats 400000

def xorc (x y : Int) : Int := if x = y then 48 else 49
/-- where the first k bits differ -/
def xorTo (a b : ByteArray) (k : Nat) : List Int := (List.range k).map fun i => xorc (bt a i) (bt b i)
theorem xorTo_succ (a b : ByteArray) (k : Nat) : xorTo a b (k + 1) = xorTo a b k ++ [xorc (bt a k) (bt b k)] := by simp [xorTo, List.range_succ]
theorem xorTo_length (a b : ByteArray) (k : Nat) : (xorTo a b k).length = k := by simp [xorTo]

theorem xor_yes (a b : ByteArray) (w : World) (ha : a.size ≤ 400) (hab : a.size = b.size) (hA : AllIn 48 49 a) (hB : AllIn 48 49 b) :
    Calls Try.prog 22 #[.string a, .string b] w fun e w' => e = .returned (.tuple #[.string (strOfNums (xorTo a b a.size)), .bool true]) ∧ Below w.heap.size w w' := by
  have h1 : Hid (BitsP a) := ⟨ha, hA⟩
  have h2 : Hid (BitsP b) := ⟨by omega, hB⟩
  have hne : ((a.size : Int) != (b.size : Int)) = false := by simp [hab]
  have HA := Lib.hid hA
  have HB := Lib.hid hB
  have HS := Lib.hid hab
  clear hA hB hab
  obtain ⟨i0, hi, hz0, hz1, hz2⟩ := info_parts Try.info5
  go_enter Try.func22, Try.ntmps22
  go_wp2_with fail
  refine (isBits_yes _ _ h1.out).mono ?_
  rintro e w1 ⟨rfl, hb1⟩
  go_wp2_with fail
  refine (isBits_yes _ _ h2.out).mono ?_
  rintro e w2 ⟨rfl, hb2⟩
  have hbel2 : Below w.heap.size w w2 := hb1.trans (hb2.mono hb1.size)
  clear hb1 hb2
  go_wp2_with (at_make; refine wpList_make_full _ rfl _ _ 22 rfl w.heap.size 5 i0 _ 1 Try.underlying22 hi hz0 hz1 _ _ _ _ a.size rfl rfl rfl rfl (by rw [hz2]; omega) (by unfold maxLen; omega) hbel2.size ?_; intro w3 hown hgrow)
  have hown3 : w3.ownsRow w.heap.size 5 1 (.slice (some ⟨w2.heap.size, 0, none⟩) a.size a.size) a.size ((pad (xorTo a b 0) a.size).map (Value.int .u8)) := by rw [pad_made] at hown; exact hown
  have hbel3 : Below w.heap.size w w3 := hbel2.grown hgrow hbel2.size (by simp)
  have hz := hbel2.size
  clear hown hgrow hbel2
  go_loopw [7, 28] (fun _ i wr => ∃ k : Nat, k ≤ a.size ∧ i = .int .i64 k ∧ wr.ownsRow w.heap.size 5 1 (.slice (some ⟨w2.heap.size, 0, none⟩) a.size a.size) a.size ((pad (xorTo a b k) a.size).map (Value.int .u8)) ∧ Below w.heap.size w wr) (fun _ i _ => a.size - (intOf i).toNat)
  case atStart => exact ⟨0, Nat.zero_le _, rfl, hown3, hbel3⟩
  case round =>
    obtain ⟨k, hk, rfl, hown, hbel⟩ := hrel
    by_cases hlt : k < a.size
    · obtain ⟨g1, g2⟩ := HA.out k hlt
      have hlb : k < b.size := by have := HS.out; omega
      obtain ⟨g3, g4⟩ := HB.out k hlb
      have hx : ((a[k]'hlt).toNat : Int) = 48 ∨ ((a[k]'hlt).toNat : Int) = 49 := by omega
      have hy : ((b[k]'hlb).toNat : Int) = 48 ∨ ((b[k]'hlb).toNat : Int) = 49 := by omega
      have HX : Hid (xorTo a b (k + 1) = xorTo a b k ++ [xorc ((a[k]'hlt).toNat) ((b[k]'hlb).toNat)]) := by rw [get_bt a k hlt, get_bt b k hlb]; exact xorTo_succ a b k
      obtain ⟨hc, hf⟩ := own_next hown (xorTo_length a b k) hlt
      clear g1 g2 g3 g4 hown3 hbel3
      rcases hx with hx | hx
      · rcases hy with hy | hy
        · go_wp2
          go_region
          go_wp2
          all_goals
            go_roundw
            case rel =>
              refine ⟨k + 1, by omega, by go_num, ?_, ?_⟩
              · have e : ((48 + bits BinOp.xor IntKind.u8 48 48) % 256 : Int) = xorc 48 48 := by rfl
                rw [HX.out, hx, hy, e]
                exact (own_step hown (xorTo_length a b k) hlt _).drew
              · exact (hbel.setCell (by simp; omega) _).drew
            case measure => simp [intOf]; omega
        · go_wp2
          go_region
          go_wp2
          all_goals
            go_roundw
            case rel =>
              refine ⟨k + 1, by omega, by go_num, ?_, ?_⟩
              · have e : ((48 + bits BinOp.xor IntKind.u8 48 49) % 256 : Int) = xorc 48 49 := by rfl
                rw [HX.out, hx, hy, e]
                exact (own_step hown (xorTo_length a b k) hlt _).drew
              · exact (hbel.setCell (by simp; omega) _).drew
            case measure => simp [intOf]; omega
      · rcases hy with hy | hy
        · go_wp2
          go_region
          go_wp2
          all_goals
            go_roundw
            case rel =>
              refine ⟨k + 1, by omega, by go_num, ?_, ?_⟩
              · have e : ((48 + bits BinOp.xor IntKind.u8 49 48) % 256 : Int) = xorc 49 48 := by rfl
                rw [HX.out, hx, hy, e]
                exact (own_step hown (xorTo_length a b k) hlt _).drew
              · exact (hbel.setCell (by simp; omega) _).drew
            case measure => simp [intOf]; omega
        · go_wp2
          go_region
          go_wp2
          all_goals
            go_roundw
            case rel =>
              refine ⟨k + 1, by omega, by go_num, ?_, ?_⟩
              · have e : ((48 + bits BinOp.xor IntKind.u8 49 49) % 256 : Int) = xorc 49 49 := by rfl
                rw [HX.out, hx, hy, e]
                exact (own_step hown (xorTo_length a b k) hlt _).drew
              · exact (hbel.setCell (by simp; omega) _).drew
            case measure => simp [intOf]; omega
    · obtain rfl : k = a.size := by omega
      have hp : Hid (pad (xorTo a b a.size) a.size = xorTo a b a.size) := by
        unfold Hid
        have := pad_full (xorTo a b a.size)
        rwa [xorTo_length] at this
      rw [hp.out] at hown
      have hcv := conv_own (P := Try.prog) (dst := 9) Try.underlying22 Try.underlying5 Try.underlying9 hown
      clear hown hown3 hbel3
      go_wp2
      go_ret2
      exact ⟨rfl, hbel⟩

/-- two texts of few bits that are as long -/
def SameBits (a b : ByteArray) : Prop := a.size = b.size ∧ BitsP a ∧ BitsP b

theorem xor_no (a b : ByteArray) (w : World) (hma : a.size ≤ maxLen) (hmb : b.size ≤ maxLen) (h : ¬ SameBits a b) :
    Calls Try.prog 22 #[.string a, .string b] w fun e w' => e = .returned (.tuple #[.string ⟨#[]⟩, .bool false]) ∧ Below w.heap.size w w' := by
  by_cases hab : a.size = b.size
  · have hne : ((a.size : Int) != (b.size : Int)) = false := by simp [hab]
    by_cases h1 : BitsP a
    · have H2 : Hid (¬ BitsP b) := fun x => h ⟨hab, h1, x⟩
      have H1 := Lib.hid h1
      clear h hab h1
      go_enter Try.func22, Try.ntmps22
      go_wp2_with fail
      refine (isBits_yes _ _ H1.out).mono ?_
      rintro e w1 ⟨rfl, hb1⟩
      go_wp2_with fail
      refine (isBits_no _ _ hmb H2.out).mono ?_
      rintro e w2 ⟨rfl, hb2⟩
      have hbel2 : Below w.heap.size w w2 := hb1.trans (hb2.mono hb1.size)
      clear hb1 hb2
      go_wp2
      go_ret2
      exact ⟨rfl, hbel2⟩
    · have H1 := Lib.hid h1
      clear h hab h1
      go_enter Try.func22, Try.ntmps22
      go_wp2_with (go_at_call 59; refine (isBits_no _ _ hma H1.out).mono ?_; rintro e w1 ⟨rfl, hb1⟩)
      go_ret2
      exact ⟨rfl, hb1⟩
  · have hne : ((a.size : Int) != (b.size : Int)) = true := by simp; omega
    clear h hab
    go_enter Try.func22, Try.ntmps22
    go_wp2
    go_ret2
    exact ⟨rfl, Below.refl _ _⟩

end Go.Proofs.Ytapccbplmbbnnab
