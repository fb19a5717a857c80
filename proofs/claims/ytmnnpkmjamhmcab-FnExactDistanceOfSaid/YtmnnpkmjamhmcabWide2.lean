/- Parts of fractions out of numbers of two words: (impl.wide).part, impl.fractionOf, spec.l01Small. -/
import Derived.Test.YtmnnpkmjamhmcabWide
namespace Go.Proofs.Ytmnnpkmjamhmcab
open Go.RowKit Go.PlainAid
set_option maxHeartbeats 400000

/-- small enough for a part of a fraction -/
def Small (z : Int) : Prop := -1000000000000000000 ≤ z ∧ z ≤ 1000000000000000000
/-- within two words -/
def In128 (z : Int) : Prop := -170141183460469231731687303715884105728 < z ∧ z < 170141183460469231731687303715884105728

theorem Small.out {z : Int} (h : Small z) : -1000000000000000000 ≤ z ∧ z ≤ 1000000000000000000 := h
theorem In128.of (z : Int) (h1 : -170141183460469231731687303715884105728 < z) (h2 : z < 170141183460469231731687303715884105728) : In128 z := ⟨h1, h2⟩

theorem part_yes (z h l : Int) (w : World) (e1 : Hid (h = hiU z)) (e2 : Hid (l = loU z)) (hs : Small z) :
    Calls Try.prog 226 #[.agg #[.int .u64 h, .int .u64 l]] w fun e w' => e = .returned (.tuple #[.int .i64 z, .bool true]) ∧ Below w.heap.size w w' := by
  obtain ⟨s1, s2⟩ := hs.out
  have C : Hid (∀ W : World, Calls Try.prog 239 #[.agg #[.int .u64 h, .int .u64 l]] W fun e w' => e = .returned (.agg #[.int .u64 0, .int .u64 (z.natAbs : Nat)]) ∧ Below W.heap.size W w') := by
    intro W
    have := size_any z h l W e1 e2 (by omega) (by omega)
    rwa [show hiU (z.natAbs : Nat) = 0 by unfold hiU; omega, show loU (z.natAbs : Nat) = (z.natAbs : Nat) by unfold loU; omega] at this
  have HW : Hid (IntKind.i64.wrap l = z) := by have := e2.out; unfold loU at this; unfold Hid; rw [IntKind.wrap_i64]; omega
  have HW2 : Hid (wrap64 l = z) := by unfold Hid; rw [← i64_is]; exact HW.out
  go_enter Try.func226, Try.ntmps226
  go_wp2_with fail
  refine (C.out _).mono ?_
  rintro e w1 ⟨rfl, hb⟩
  obtain ⟨hc, hf⟩ := oldRead hb
  have hz : w.heap.size < w1.heap.size := by have := hb.size; simp at this; omega
  have hb1 : Below w.heap.size w w1 := ((Below.refl w.heap.size w).alloc (Nat.le_refl _) _).trans (hb.mono (by simp))
  clear hb
  go_wp2
  go_ret2
  exact ⟨by first | (rw [← HW.out]; rfl) | (rw [← HW2.out]; rfl), hb1.alloc (by omega) _⟩

theorem part_no (z h l : Int) (w : World) (e1 : Hid (h = hiU z)) (e2 : Hid (l = loU z)) (hi : In128 z) (hs : ¬ Small z) :
    Calls Try.prog 226 #[.agg #[.int .u64 h, .int .u64 l]] w fun e w' => e = .returned (.tuple #[.int .i64 0, .bool false]) ∧ Below w.heap.size w w' := by
  have C : Hid (∀ W : World, Calls Try.prog 239 #[.agg #[.int .u64 h, .int .u64 l]] W fun e w' => e = .returned (.agg #[.int .u64 (hiU (z.natAbs : Nat)), .int .u64 (loU (z.natAbs : Nat))]) ∧ Below W.heap.size W w') := fun W => size_any z h l W e1 e2 hi.1 hi.2
  have hbig : 1000000000000000000 < (z.natAbs : Int) := by unfold Small at hs; omega
  by_cases h0 : hiU (z.natAbs : Nat) = 0
  · have t1 : (hiU (z.natAbs : Nat) != 0) = false := by simp [h0]
    have t2 : 1000000000000000000 < loU (z.natAbs : Nat) := by unfold hiU at h0; unfold loU; have := hi.1; have := hi.2; omega
    clear h0 hs hbig
    go_enter Try.func226, Try.ntmps226
    go_wp2_with fail
    refine (C.out _).mono ?_
    rintro e w1 ⟨rfl, hb⟩
    obtain ⟨hc, hf⟩ := oldRead hb
    have hz : w.heap.size < w1.heap.size := by have := hb.size; simp at this; omega
    have hb1 : Below w.heap.size w w1 := ((Below.refl w.heap.size w).alloc (Nat.le_refl _) _).trans (hb.mono (by simp))
    clear hb
    go_wp2
    go_ret2
    exact ⟨rfl, hb1.alloc (by omega) _⟩
  · have t1 : (hiU (z.natAbs : Nat) != 0) = true := by simp [h0]
    clear h0 hs hbig
    go_enter Try.func226, Try.ntmps226
    go_wp2_with fail
    refine (C.out _).mono ?_
    rintro e w1 ⟨rfl, hb⟩
    obtain ⟨hc, hf⟩ := oldRead hb
    have hz : w.heap.size < w1.heap.size := by have := hb.size; simp at this; omega
    have hb1 : Below w.heap.size w w1 := ((Below.refl w.heap.size w).alloc (Nat.le_refl _) _).trans (hb.mono (by simp))
    clear hb
    go_wp2
    go_ret2
    exact ⟨rfl, hb1.alloc (by omega) _⟩

/-- part, whatever the number -/
def partV (z : Int) (v : Int) (ok : Bool) : Prop := (Small z ∧ v = z ∧ ok = true) ∨ (¬ Small z ∧ v = 0 ∧ ok = false)
theorem part_any (z h l : Int) (e1 : Hid (h = hiU z)) (e2 : Hid (l = loU z)) (hi : In128 z) : ∃ v ok, partV z v ok ∧
    ∀ W : World, Calls Try.prog 226 #[.agg #[.int .u64 h, .int .u64 l]] W fun e w' => e = .returned (.tuple #[.int .i64 v, .bool ok]) ∧ Below W.heap.size W w' := by
  by_cases hs : Small z
  · exact ⟨z, true, .inl ⟨hs, rfl, rfl⟩, fun W => part_yes z h l W e1 e2 hs⟩
  · exact ⟨0, false, .inr ⟨hs, rfl, rfl⟩, fun W => part_no z h l W e1 e2 hi hs⟩

theorem fracOf_any (N D h1 l1 h2 l2 : Int) (w : World) (e1 : Hid (h1 = hiU N)) (e2 : Hid (l1 = loU N)) (e3 : Hid (h2 = hiU D)) (e4 : Hid (l2 = loU D)) (hN : In128 N) (hD : In128 D) :
    Calls Try.prog 198 #[.agg #[.int .u64 h1, .int .u64 l1], .agg #[.int .u64 h2, .int .u64 l2]] w fun e w' =>
      ∃ n d ok, e = .returned (.tuple #[.agg #[.int .i64 n, .int .i64 d], .bool ok]) ∧ Hid ((Small N ∧ Small D ∧ n = N ∧ d = D ∧ ok = true) ∨ (¬ (Small N ∧ Small D) ∧ n = 0 ∧ d = 0 ∧ ok = false)) ∧ Below w.heap.size w w' := by
  obtain ⟨v1, k1, p1, C1⟩ := part_any N h1 l1 e1 e2 hN
  obtain ⟨v2, k2, p2, C2⟩ := part_any D h2 l2 e3 e4 hD
  have C1 := Lib.hid C1
  have C2 := Lib.hid C2
  have P1 := Lib.hid p1
  have P2 := Lib.hid p2
  clear p1 p2
  cases k1
  · go_enter Try.func198, Try.ntmps198
    go_wp2_with fail
    refine (C1.out _).mono ?_
    rintro e w1 ⟨rfl, hb⟩
    obtain ⟨hc, hf⟩ := oldRead hb
    have hz : w.heap.size + 2 < w1.heap.size := by have := hb.size; simp at this; omega
    have hb1 : Below w.heap.size w w1 := ((((Below.refl w.heap.size w).alloc (Nat.le_refl _) _).alloc (by simp) _).alloc (by simp; omega) _).trans (hb.mono (by simp; omega))
    clear hb
    go_wp2_with fail
    refine (C2.out _).mono ?_
    rintro e w2 ⟨rfl, hb⟩
    obtain ⟨hc2, hf2⟩ := oldRead hb
    have hz2 : w.heap.size + 2 < w2.heap.size := by have := hb.size; omega
    have hb2 : Below w.heap.size w w2 := hb1.trans (hb.mono (by omega))
    clear hb hb1
    go_wp2
    refine bodyPost_ret (v := .tuple #[.agg #[.int .i64 0, .int .i64 0], .bool false]) (by simp [results, Try.results198, go_sem, hc, hc2, hz]) rfl ⟨0, 0, false, rfl, ?_, (hb2.setCell (by simp; omega) _).setCell (by simp; omega) _⟩
    rcases P1.out with ⟨_, _, x⟩ | ⟨x, _, _⟩
    · exact absurd x (by simp)
    · exact .inr ⟨fun y => x y.1, rfl, rfl, rfl⟩
  · cases k2
    · go_enter Try.func198, Try.ntmps198
      go_wp2_with fail
      refine (C1.out _).mono ?_
      rintro e w1 ⟨rfl, hb⟩
      obtain ⟨hc, hf⟩ := oldRead hb
      have hz : w.heap.size + 2 < w1.heap.size := by have := hb.size; simp at this; omega
      have hb1 : Below w.heap.size w w1 := ((((Below.refl w.heap.size w).alloc (Nat.le_refl _) _).alloc (by simp) _).alloc (by simp; omega) _).trans (hb.mono (by simp; omega))
      clear hb
      go_wp2_with fail
      refine (C2.out _).mono ?_
      rintro e w2 ⟨rfl, hb⟩
      obtain ⟨hc2, hf2⟩ := oldRead hb
      have hz2 : w.heap.size + 2 < w2.heap.size := by have := hb.size; omega
      have hb2 : Below w.heap.size w w2 := hb1.trans (hb.mono (by omega))
      clear hb hb1
      go_wp2
      refine bodyPost_ret (v := .tuple #[.agg #[.int .i64 0, .int .i64 0], .bool false]) (by simp [results, Try.results198, go_sem, hc, hc2, hz]) rfl ⟨0, 0, false, rfl, ?_, (hb2.setCell (by simp; omega) _).setCell (by simp; omega) _⟩
      rcases P2.out with ⟨_, _, x⟩ | ⟨x, _, _⟩
      · exact absurd x (by simp)
      · exact .inr ⟨fun y => x y.2, rfl, rfl, rfl⟩
    · go_enter Try.func198, Try.ntmps198
      go_wp2_with fail
      refine (C1.out _).mono ?_
      rintro e w1 ⟨rfl, hb⟩
      obtain ⟨hc, hf⟩ := oldRead hb
      have hz : w.heap.size + 2 < w1.heap.size := by have := hb.size; simp at this; omega
      have hb1 : Below w.heap.size w w1 := ((((Below.refl w.heap.size w).alloc (Nat.le_refl _) _).alloc (by simp) _).alloc (by simp; omega) _).trans (hb.mono (by simp; omega))
      clear hb
      go_wp2_with fail
      refine (C2.out _).mono ?_
      rintro e w2 ⟨rfl, hb⟩
      obtain ⟨hc2, hf2⟩ := oldRead hb
      have hz2 : w.heap.size + 2 < w2.heap.size := by have := hb.size; omega
      have hb2 : Below w.heap.size w w2 := hb1.trans (hb.mono (by omega))
      clear hb hb1
      go_wp2
      refine bodyPost_ret (v := .tuple #[.agg #[.int .i64 v1, .int .i64 v2], .bool true]) (by simp [results, Try.results198, go_sem, hc, hc2, hz]) rfl ⟨v1, v2, true, rfl, ?_, (hb2.setCell (by simp; omega) _).setCell (by simp; omega) _⟩
      rcases P1.out with ⟨x1, x2, _⟩ | ⟨_, _, x⟩
      · rcases P2.out with ⟨y1, y2, _⟩ | ⟨_, _, y⟩
        · exact .inl ⟨x1, y1, x2, y2, rfl⟩
        · exact absurd y (by simp)
      · exact absurd x (by simp)

/-- l01Small of a number that is not negative -/
theorem small_any (N h l : Int) (e1 : Hid (h = hiU N)) (e2 : Hid (l = loU N)) (h0 : 0 ≤ N) (h1 : In128 N) : ∃ v ok, partV N v ok ∧
    ∀ w : World, Calls Try.prog 220 #[.agg #[.int .u64 h, .int .u64 l]] w fun e w' => e = .returned (.tuple #[.int .i64 v, .bool ok]) ∧ Below w.heap.size w w' := by
  have b1 : 0 ≤ h ∧ h ≤ 18446744073709551615 := by have := hiU_in N; rw [e1.out]; exact this
  have b2 : 0 ≤ l ∧ l ≤ 18446744073709551615 := by have := loU_in N; rw [e2.out]; exact this
  by_cases hh : 0 < h
  · refine ⟨0, false, .inr ⟨by have := e1.out; unfold hiU at this; unfold Small; omega, rfl, rfl⟩, fun w => ?_⟩
    go_enter Try.func220, Try.ntmps220
    go_wp2
    go_ret2
    exact ⟨rfl, by go_grown⟩
  · have E : Hid (l = N) := by
      have x1 := e1.out; have x2 := e2.out; have y1 := h1.1; have y2 := h1.2
      unfold hiU at x1; unfold loU at x2; unfold Hid; omega
    by_cases hl : 1000000000000000000 < l
    · refine ⟨0, false, .inr ⟨by have := E.out; unfold Small; omega, rfl, rfl⟩, fun w => ?_⟩
      go_enter Try.func220, Try.ntmps220
      go_wp2
      go_ret2
      exact ⟨rfl, by go_grown⟩
    · refine ⟨l, true, .inl ⟨by have := E.out; unfold Small; omega, E.out, rfl⟩, fun w => ?_⟩
      go_enter Try.func220, Try.ntmps220
      go_wp2
      go_ret2
      exact ⟨rfl, by go_grown⟩
end Go.Proofs.Ytmnnpkmjamhmcab
