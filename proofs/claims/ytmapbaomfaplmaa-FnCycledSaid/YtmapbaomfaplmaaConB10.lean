/- A drawn congruence and a state of it: spec.B10Congruence. -/
import Derived.Test.YtmapbaomfaplmaaConDraw
import Derived.Deep.RegionWith
namespace Go.Proofs.Ytmapbaomfaplmaa
open Go.RowKit Go.PlainAid
set_option maxHeartbeats 800000

/-- a drawn congruence and a state of it -/
def B10Post (w : World) (e : Ending) (w' : World) : Prop := ∃ M A C X : Nat, e = .returned (.tuple #[.agg #[.int .i64 M, .int .i64 A, .int .i64 C], .int .i64 X]) ∧ (2 ≤ M ∧ M ≤ 4001 ∧ A < M ∧ C < M ∧ X < M) ∧ Below w.heap.size w w'
theorem b10Con_any (a : Option Addr) (len cap : Nat) (w : World) (hC : Code w w.heap.size a len) (hl : len ≤ 1048576) :
    Calls Try.prog 39 #[.slice a len cap] w (B10Post w) := by
  have HC : Hid (Code (w.alloc (.cells #[.int .i64 0, .int .i64 0, .int .i64 0] 25)) w.heap.size a len) := hC.below ((Below.refl _ _).alloc (Nat.le_refl _) _)
  have Z0 : Hid (C3 (w.alloc (.cells #[.int .i64 0, .int .i64 0, .int .i64 0] 25)) w.heap.size (.int .i64 0) (.int .i64 0) (.int .i64 0)) := C3.new _ _ _ _ _
  have B0 : Hid (Below w.heap.size w (w.alloc (.cells #[.int .i64 0, .int .i64 0, .int .i64 0] 25))) := (Below.refl _ _).alloc (Nat.le_refl _) _
  clear hC
  go_enter Try.func39, Try.ntmps39
  go_wp2_with fail
  have hz0 : Hid (w.heap.size < (w.alloc (.cells #[.int .i64 0, .int .i64 0, .int .i64 0] 25)).heap.size) := by unfold Hid; simp
  generalize w.alloc (.cells #[.int .i64 0, .int .i64 0, .int .i64 0] 25) = w0 at HC Z0 B0 hz0 ⊢
  have HC0 : Hid (Code w0 w0.heap.size a len) := by
    rcases HC.out with h | ⟨c, off, ha, hc, hx⟩
    · exact .inl h
    · exact .inr ⟨c, off, ha, by have := hz0.out; omega, hx⟩
  refine (from_any a len cap _ HC0.out).mono ?_
  rintro e w1 ⟨rfl, hs1, hb1⟩
  obtain ⟨b, hbb⟩ : ∃ b, w0.heap.size = b := ⟨_, rfl⟩
  rw [hbb] at hs1
  have hzb : Hid (w.heap.size < b) := by have := hz0.out; unfold Hid; omega
  have S1 := Lib.hid (And.intro hs1 (And.intro (Z0.out.below hb1 Z0.out.lt) (B0.out.trans (hb1.mono B0.out.size))))
  clear HC HC0 Z0 B0 hs1 hb1 hz0
  go_wp2_with fail
  clear hbb
  refine (drawOk_any b b a len cap 0 _ S1.out.1 (by omega) hl).mono ?_
  rintro e w2 ⟨M, A, C, rfl, hM, hs2, hg2⟩
  have Z2 := Lib.hid (S1.out.2.1.grow hg2 (by have := hzb.out; omega))
  have B2 := Lib.hid (S1.out.2.2.grown hg2 S1.out.2.2.size (fun y hy => by simp at hy; have := hzb.out; omega))
  have S2 := Lib.hid hs2
  have hb2 : Hid (b < w2.heap.size) := by
    obtain ⟨_, _, k, s, _, _, _, c0, _⟩ := hs2
    exact World.block_lt_of_cell? w2 _ c0
  have HM := Lib.hid hM
  clear hs2 hg2 S1 hM
  go_wp2_with fail
  have L3 := C3.new w2 (.int .i64 M) (.int .i64 A) (.int .i64 C) 25
  have Z3 := Lib.hid (Z2.out.alloc (.cells #[.int .i64 M, .int .i64 A, .int .i64 C] 25))
  have B3 := Lib.hid (B2.out.alloc B2.out.size (.cells #[.int .i64 M, .int .i64 A, .int .i64 C] 25))
  have S3 := Lib.hid (S2.out.below ((Below.refl (b + 1) w2).alloc hb2.out (.cells #[.int .i64 M, .int .i64 A, .int .i64 C] 25)))
  generalize w2.alloc (.cells #[.int .i64 M, .int .i64 A, .int .i64 C] 25) = w3 at L3 Z3 B3 S3 ⊢
  obtain ⟨g, hg⟩ : ∃ g, w2.heap.size = g := ⟨_, rfl⟩
  rw [hg] at L3 hb2 ⊢
  have hgb : g ≠ b := by have := hb2.out; omega
  have hzz : w.heap.size ≠ b := by have := hzb.out; omega
  have hzg : ¬ w.heap.size = g := by have := hzb.out; have := hb2.out; omega
  have hgz : ¬ g = w.heap.size := fun e => hzg e.symm
  have L3' := Lib.hid L3.drew
  have S3d : Hid (Src b w3.drew b a len cap (0 + 12)) := S3.out
  have Z3d := Lib.hid Z3.out.drew
  have B3d := Lib.hid B3.out.drew
  have HM1 : 1 ≤ (M : Int) := by have := HM.out.1; omega
  have HM2 : (M : Int) ≤ 9223372036854775807 := by have := HM.out.2.1; omega
  have HP : Hid (Calls Try.prog 58 #[.pointer (some ⟨b, 0, none⟩), .int .i64 M] w3.drew fun e w4 => ∃ X : Nat, e = .returned (.int .i64 X) ∧ X < M ∧ C3 w4 g (.int .i64 M) (.int .i64 A) (.int .i64 C) ∧ C3 w4 w.heap.size (.int .i64 0) (.int .i64 0) (.int .i64 0) ∧ Below w.heap.size w w4) := by
    refine (pick_any b b a len cap (0 + 12) M _ S3d.out (by omega) hl HM1 HM2).mono ?_
    rintro e w4 ⟨x, rfl, ⟨x0, x1⟩, hs4, hg4⟩
    exact ⟨x.toNat, by rw [Int.toNat_of_nonneg x0], by omega, L3'.out.grow hg4 hgb, Z3d.out.grow hg4 hzz, B3d.out.grown hg4 B3d.out.size (fun y hy => by simp at hy; have := hzb.out; omega)⟩
  clear hg Z2 B2 S2 S3 S3d Z3 B3
  obtain ⟨⟨l0, l1, l2⟩, lf0, lf1, lf2⟩ := L3
  go_region_with (go_at_call 58; refine HP.out.mono ?_; rintro e w4 ⟨X, rfl, hX, ⟨⟨l0, l1, l2⟩, lf0, lf1, lf2⟩, hZ, hB⟩; have HZ := Lib.hid (And.intro hZ hB); obtain ⟨⟨z0, z1, z2⟩, zf0, zf1, zf2⟩ := hZ; clear hB)
  all_goals go_wp2
  all_goals
    have P := (HZ.out.1.put (.int .i64 M) (.int .i64 A) (.int .i64 C)).1
    unfold put3 at P
    obtain ⟨p0, p1, p2⟩ := P
    exact bodyPost_ret (v := .tuple #[.agg #[.int .i64 M, .int .i64 A, .int .i64 C], .int .i64 X]) (by simp [results, Try.results39, go_sem, p0, p1, p2]) rfl ⟨M, A, C, X, rfl, ⟨HM.out.1, HM.out.2.1, HM.out.2.2.1, HM.out.2.2.2, hX⟩, below_put3 HZ.out.2 (Nat.le_refl _) _ _ _⟩
end Go.Proofs.Ytmapbaomfaplmaa
