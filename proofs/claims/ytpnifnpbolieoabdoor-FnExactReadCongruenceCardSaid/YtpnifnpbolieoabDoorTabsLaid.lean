/- What a tied row gives on the library's tables and errors. -/
import Derived.Test.YtpnifnpbolieoabDoorReadDec
import Derived.LaidLaws
namespace Go.Proofs.YtpnifnpbolieoabDoor
open Go.RowKit Go.PlainAid

theorem starE : "*" ++ "errors.errorString" = "*errors.errorString" := by decide
theorem rowErr (u : TypeId) (h : Tryd.prog.typeName? 3 u = some "*errors.errorString") : u = 144 :=
  typeName_ptr_named (nm := "errors.errorString") (by rw [starE]; kernel_rfl) (by kernel_rfl) (by decide) u (by rw [starE]; exact h)
theorem sent_syntax {r : List (String × DataW Unit)} {w : World} (h : laidMet Tryd.prog (("strconv.ErrSyntax", Rows.laid_strconv_ErrSyntax) :: r) w) : ∃ t p, w.cell? ⟨2, 0, none⟩ = some (.iface t p) := by
  obtain ⟨a, s, hv, _⟩ := laid_sentinel (g := 2) (te := 146) (ts := 9) h (by kernel_rfl) (by kernel_rfl) Tryd.underlying85 rowErr Tryd.underlying144 Tryd.underlying146 rfl rfl Tryd.underlying9 (by kernel_rfl) (by kernel_rfl)
  have := World.var?_cell (g := 2) (by kernel_rfl) hv 0
  exact ⟨_, _, by simpa using this⟩
theorem sent_range {r : List (String × DataW Unit)} {w : World} (h : laidMet Tryd.prog (("strconv.ErrRange", Rows.laid_strconv_ErrRange) :: r) w) : ∃ t p, w.cell? ⟨3, 0, none⟩ = some (.iface t p) := by
  obtain ⟨a, s, hv, _⟩ := laid_sentinel (g := 3) (te := 146) (ts := 9) h (by kernel_rfl) (by kernel_rfl) Tryd.underlying85 rowErr Tryd.underlying144 Tryd.underlying146 rfl rfl Tryd.underlying9 (by kernel_rfl) (by kernel_rfl)
  have := World.var?_cell (g := 3) (by kernel_rfl) hv 0
  exact ⟨_, _, by simpa using this⟩
theorem tabs_laid {r : List (String × DataW Unit)} {w : World} (h : laidMet Tryd.prog (("math/bits.deBruijn32tab", Rows.laid_math_bits_deBruijn32tab) :: ("math/bits.deBruijn64tab", Rows.laid_math_bits_deBruijn64tab) :: ("internal/strconv.uint64pow10", Rows.laid_internal_strconv_uint64pow10) :: ("strconv.ErrRange", Rows.laid_strconv_ErrRange) :: ("strconv.ErrSyntax", Rows.laid_strconv_ErrSyntax) :: r) w) : Tabs w :=
  ⟨pow10_laid h, sent_syntax h.tail.tail.tail.tail, sent_range h.tail.tail.tail⟩
theorem tabs_laid2 {r : List (String × DataW Unit)} {w : World} (h : laidMet Tryd.prog (("math/bits.deBruijn32tab", Rows.laid_math_bits_deBruijn32tab) :: ("math/bits.deBruijn64tab", Rows.laid_math_bits_deBruijn64tab) :: ("internal/strconv.uint64pow10", Rows.laid_internal_strconv_uint64pow10) :: ("unicode/utf8.acceptRanges", Rows.laid_unicode_utf8_acceptRanges) :: ("strconv.ErrRange", Rows.laid_strconv_ErrRange) :: ("strconv.ErrSyntax", Rows.laid_strconv_ErrSyntax) :: r) w) : Tabs w :=
  ⟨pow10_laid h, sent_syntax h.tail.tail.tail.tail.tail, sent_range h.tail.tail.tail.tail⟩
end Go.Proofs.YtpnifnpbolieoabDoor
