/- A number in decimal: impl.Decimal by the library's contract, spec.Decimal, and the law FnExactDecimal; what a tied row gives on the table of powers of ten. -/
import Derived.Test.YtpnifnpbolieoabDoorDec
import Derived.Test.YtpnifnpbolieoabDoorShelf
import Derived.Lib.AppendIntMem
import Derived.Lib.LaidTab
import Derived.MakeChecks
import Derived.Stop.LaidErr
namespace Go.Proofs.YtpnifnpbolieoabDoor
open Go.RowKit Go.PlainAid
set_option maxHeartbeats 800000

/-- the table of powers of ten reads as the library lays it, whatever is done at blocks from B on -/
def Pow10 (B : Nat) (w : World) : Prop := Lib.TabBelow Tryd.prog B w "internal/strconv.uint64pow10" .u64 Lib.pow10Tab
theorem Pow10.on {B : Nat} {w w1 : World} (h : Pow10 B w) (hb : Below B w w1) : Pow10 B w1 := Lib.TabBelow.on h hb
theorem laid_head {P : Program} {a b c : String × DataW Unit} {r : List (String × DataW Unit)} {w : World} (h : laidMet P (a :: b :: c :: r) w) : laidMet P (c :: r) w := h.tail.tail
theorem pow10_laid {r : List (String × DataW Unit)} {w : World} (h : laidMet Tryd.prog (("math/bits.deBruijn32tab", Rows.laid_math_bits_deBruijn32tab) :: ("math/bits.deBruijn64tab", Rows.laid_math_bits_deBruijn64tab) :: ("internal/strconv.uint64pow10", Rows.laid_internal_strconv_uint64pow10) :: r) w) : Pow10 w.heap.size w := by
  have e : (Rows.laid_internal_strconv_uint64pow10 : DataW Unit) = Lib.tabData .u64 Lib.pow10Tab := by kernel_rfl
  have h2 := laid_head h
  rw [e] at h2
  exact Lib.tabBelow_of_tabIs (Lib.tabIs_of_head (g := 0) (t := 116) (e := 96) (n := 20) (by kernel_rfl) (by kernel_rfl) Tryd.underlying116 Tryd.underlying96 (by kernel_rfl) (by kernel_rfl) h2)

theorem implDec_any (n : Int) (w : World) (h0 : -9223372036854775808 ≤ n) (h1 : n ≤ 9223372036854775807) (ht : Pow10 w.heap.size w) :
    Calls Tryd.prog 13 #[.int .i64 n] w fun e w' => e = .returned (.string ⟨(Lib.itoa n).toArray⟩) ∧ Below w.heap.size w w' := by
  have HC : Hid (Calls Tryd.prog 48 #[.int .i64 n, .int .i64 10] w fun e w' => e = .returned (.string ⟨(Lib.itoa n).toArray⟩) ∧ Below w.heap.size w w') := by
    refine (Tryd.strconv_FormatInt_10 n h0 h1 w ht.here).mono ?_
    rintro e w' ⟨he, k, os, rfl⟩
    exact ⟨he, Lib.below_grow _ _ (Nat.le_refl _) k os⟩
  clear ht
  go_enter Tryd.func13, Tryd.ntmps13
  go_wp2_with (go_at_call 48; with_reducible refine (HC.out).mono ?_; rintro e w1 ⟨rfl, hb⟩)
  go_ret
  exact ⟨rfl, hb⟩
theorem lawDec (n : Int) (w : World) (wn : (Lit.int .i64 n).wf = true) (ht : Pow10 w.heap.size w) :
    Calls Tryd.prog 3 #[.int .i64 n] w fun e w' => e = .returned (.bool true) ∧ Below w.heap.size w w' := by
  obtain ⟨h0, h1⟩ := bounds_i64 wn
  have HS : Hid (Calls Tryd.prog 47 #[.int .i64 n] w fun e w' => e = .returned (.string ⟨(Lib.itoa n).toArray⟩) ∧ Below w.heap.size w w') := l01Dec_any n w h0 h1
  have HT : Hid (Pow10 w.heap.size w) := ht
  have hne : ((⟨(Lib.itoa n).toArray⟩ : ByteArray).toList == (⟨(Lib.itoa n).toArray⟩ : ByteArray).toList) = true := by simp
  clear ht
  go_enter Tryd.func3, Tryd.ntmps3
  go_wp2_with (first | (go_at_call 12; go_in) | (go_at_call 47; with_reducible refine (HS.out).mono ?_; rintro e w1 ⟨rfl, hb⟩))
  have hz := hb.size
  refine (implDec_any n w1 h0 h1 (fun w2 h2 => HT.out w2 (hb.trans (h2.mono hz)))).mono ?_
  rintro e w2 ⟨rfl, hb2⟩
  have HB := Lib.hid (hb.trans (hb2.mono hz))
  clear hb hb2 hz HS HT
  go_wp2
  go_ret
  exact ⟨rfl, HB.out⟩
end Go.Proofs.YtpnifnpbolieoabDoor
