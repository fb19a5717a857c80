/- Numbers read off the spectrum: BalanceOf, NonlinearityOf, NearestSum, ImmunityOf, and their laws. -/
import Derived.Test.YtgpcacbjmjpdnaaSpectrum
import Derived.Test.YtgpcacbjmjpdnaaPeak
import Derived.Test.YtgpcacbjmjpdnaaLawV
namespace Go.Proofs.Ytgpcacbjmjpdnaa
open Go.RowKit Go.PlainAid
open Wt (row pk)
set_option maxHeartbeats 800000

/-- what the code computes of a table first -/
theorem spec_pack (n : Nat) (s : ByteArray) (h : TabP n s) (f : Nat → Int) (hf : Wh.tr (Wt.sv (tb s)) n = f) : (1 ≤ s.size ∧ s.size ≤ 64) ∧ (∀ x, -(s.size : Int) ≤ f x ∧ f x ≤ s.size) ∧
    Hid (∀ W : World, Calls Try.prog 46 #[.string s] W fun e w' => e = .returned (.tuple #[.agg #[.int .i64 n, .int .u64 (val s s.size)], .bool true]) ∧ Below W.heap.size W w') ∧
    Hid (∀ W : World, Calls Try.prog 54 #[.agg #[.int .i64 n, .int .u64 (val s s.size)]] W fun e w' => ∃ G, e = .returned (.slice (some ⟨G, 0, none⟩) s.size s.size) ∧ w'.ownsRow W.heap.size 2 1 (.slice (some ⟨G, 0, none⟩) s.size s.size) s.size ((row f s.size).map (Value.int .i64)) ∧ Below W.heap.size W w') := by
  have hp := pow6 h.2.1
  refine ⟨by rw [h.1]; exact hp, fun x => ?_, fun W => funOf_yes n s W h, fun W => ?_⟩
  · have := Wh.tr_le (Wt.sv (tb s)) 1 (fun x => by rcases Wt.sv_one (tb s) x with h | h <;> rw [h] <;> omega) n x
    rw [hf, ← h.1] at this
    omega
  · have := spectrum_any n (tb s) W h.2.1
    rw [← h.1, hf] at this
    exact this
theorem gives_noV {f : FuncId} {s : ByteArray} {v : Value} (h : ∀ w : World, Calls Try.prog f #[.string s] w fun e w' => e = .returned v ∧ w = w') : Gives Try.prog f #[.string s] v := fun w =>
  (h w).mono fun _ _ ⟨he, hb⟩ => ⟨he, by rw [← hb]; exact Below.refl _ _⟩

theorem balanceOf_any (n : Nat) (s : ByteArray) (h : TabP n s) : Gives Try.prog 22 #[.string s] (.tuple #[.int .i64 (Wh.tr (Wt.sv (tb s)) n 0), .bool true]) := fun w => by
  obtain ⟨f, hf⟩ : ∃ f, Wh.tr (Wt.sv (tb s)) n = f := ⟨_, rfl⟩
  obtain ⟨⟨h1, h2⟩, _, HF, HP⟩ := spec_pack n s h f hf
  obtain ⟨U, hU⟩ : ∃ U, val s s.size = U := ⟨_, rfl⟩
  rw [hU] at HF HP
  rw [hf]
  obtain ⟨N, hN⟩ : ∃ N, s.size = N := ⟨_, rfl⟩
  rw [hN] at HP h1 h2
  clear hU h hf hN
  go_enter Try.func22, Try.ntmps22
  go_wp2_with (go_at_call 46; refine (HF.out _).mono ?_; rintro e w1 ⟨rfl, hb1⟩)
  go_wp2_with fail
  refine (HP.out _).mono ?_
  rintro e w2 ⟨G, rfl, hown, hb2⟩
  have B1 := hb1.alloc hb1.size (.cells #[.int .i64 n, .int .u64 U] 57)
  have HB := Lib.hid (B1.trans (hb2.mono B1.size))
  obtain ⟨c0, _⟩ := roww_at (i := 0) hown (by omega)
  have h0 : 0 < N := by omega
  clear hown hb1 hb2 B1
  go_wp2
  go_ret2
  exact ⟨rfl, HB.out⟩
/-- how far the nearest sum is -/
def farOf (f : Nat → Int) (N : Nat) : Int := ((N : Int) - ((f (pk f N)).natAbs : Int)) / 2
def addedOf (f : Nat → Int) (N : Nat) : Int := if f (pk f N) < 0 then 1 else 0
theorem near_step {f : Nat → Int} {k p : Nat} {a m : Int} (h : (k = 0 ∧ m = -1) ∨ (0 < k ∧ p = pk f k ∧ a = addedOf f k ∧ m = ((f (pk f k)).natAbs : Int))) {u : Int} {p' : Nat} {a' m' : Int} (e : f k = u)
    (x1 : m < u → p' = k ∧ a' = 0 ∧ m' = u) (x2 : ¬ m < u → m < -u → p' = k ∧ a' = 1 ∧ m' = -u) (x3 : ¬ m < u → ¬ m < -u → p' = p ∧ a' = a ∧ m' = m) :
    (k + 1 = 0 ∧ m' = -1) ∨ (0 < k + 1 ∧ p' = pk f (k + 1) ∧ a' = addedOf f (k + 1) ∧ m' = ((f (pk f (k + 1))).natAbs : Int)) := by
  right
  refine ⟨by omega, ?_⟩
  unfold addedOf
  rcases h with ⟨rfl, rfl⟩ | ⟨h0, h1, h2, h3⟩
  · rw [Wt.pk_one, e]
    by_cases y : -1 < u
    · obtain ⟨r1, r2, r3⟩ := x1 y
      rw [if_neg (by omega)]
      omega
    · obtain ⟨r1, r2, r3⟩ := x2 y (by omega)
      rw [if_pos (by omega)]
      omega
  · by_cases y : (f (pk f k)).natAbs < (f k).natAbs
    · rw [Wt.pk_yes y, e]
      rw [e] at y
      by_cases z : m < u
      · obtain ⟨r1, r2, r3⟩ := x1 z
        rw [if_neg (by omega)]
        omega
      · obtain ⟨r1, r2, r3⟩ := x2 z (by omega)
        rw [if_pos (by omega)]
        omega
    · rw [Wt.pk_no y]
      rw [e] at y
      obtain ⟨r1, r2, r3⟩ := x3 (by omega) (by omega)
      unfold addedOf at h2
      exact ⟨by omega, by rw [r2, h2], by rw [r3, h3]⟩
/-- the peak of a spectrum -/
theorem peak_pack (N : Nat) (f : Nat → Int) (h1 : 1 ≤ N) (h2 : N ≤ 64) (hb : ∀ x, -(N : Int) ≤ f x ∧ f x ≤ N) (v : Int) (p : Nat) (hv : f (pk f N) = v) (hp : pk f N = p) :
    Hid (∀ (B G : Nat) (W : World), W.ownsRow B 2 1 (.slice (some ⟨G, 0, none⟩) N N) N ((row f N).map (Value.int .i64)) → Calls Try.prog 55 #[.slice (some ⟨G, 0, none⟩) N N] W fun e w' => e = .returned (.tuple #[.int .i64 p, .int .i64 v]) ∧ ∃ m, w' = W.drewN m) := fun B G W h => by
  rw [← hv, ← hp]
  exact peak_any N B G N f W (by omega) (by omega) (fun x => by have := hb x; omega) h
theorem sizeT_any (n N V : Nat) (w : World) (hn : n ≤ 6) (h : N = 2 ^ n) :
    Calls Try.prog 52 #[.agg #[.int .i64 n, .int .u64 V]] w fun e w' => e = .returned (.int .i64 N) ∧ Below w.heap.size w w' := by
  rw [h]
  exact size_any n V w hn
theorem nonlinearityOf_any (n : Nat) (s : ByteArray) (h : TabP n s) : Gives Try.prog 23 #[.string s] (.tuple #[.int .i64 (farOf (Wh.tr (Wt.sv (tb s)) n) s.size), .bool true]) := fun w => by
  obtain ⟨f, hf⟩ : ∃ f, Wh.tr (Wt.sv (tb s)) n = f := ⟨_, rfl⟩
  obtain ⟨⟨h1, h2⟩, hb, HF, HP⟩ := spec_pack n s h f hf
  obtain ⟨U, hU⟩ : ∃ U, val s s.size = U := ⟨_, rfl⟩
  rw [hU] at HF HP
  rw [hf]
  have HS : Hid (∀ W : World, Calls Try.prog 52 #[.agg #[.int .i64 n, .int .u64 U]] W fun e w' => e = .returned (.int .i64 s.size) ∧ Below W.heap.size W w') := fun W => sizeT_any n s.size U W h.2.1 h.1
  obtain ⟨N, hN⟩ : ∃ N, s.size = N := ⟨_, rfl⟩
  rw [hN] at HP h1 h2 hb HS ⊢
  obtain ⟨p, hp⟩ : ∃ p, pk f N = p := ⟨_, rfl⟩
  obtain ⟨v, hv⟩ : ∃ v, f (pk f N) = v := ⟨_, rfl⟩
  have HK := peak_pack N f h1 h2 hb v p hv hp
  have hvb : -(N : Int) ≤ v ∧ v ≤ N := by rw [← hv]; exact hb _
  have HR : Hid (((N : Int) - max v (-v)) / 2 = farOf f N) := by unfold Hid farOf; rw [hv]; congr 1; omega
  clear hU h hf hN hb hv hp
  go_enter Try.func23, Try.ntmps23
  go_wp2_with (go_at_call 46; refine (HF.out _).mono ?_; rintro e w1 ⟨rfl, hb1⟩)
  go_wp2_with fail
  refine (HP.out _).mono ?_
  rintro e w2 ⟨G, rfl, hown, hb2⟩
  have B1 := hb1.alloc hb1.size (.cells #[.int .i64 n, .int .u64 U] 57)
  have A1 := (P2.new w1 (.int .i64 n) (.int .u64 U) 57).far hb2
  have B2 := B1.trans (hb2.mono B1.size)
  have HKO := Lib.hid hown
  clear hown hb1 hb2 B1
  go_wp2_with fail
  refine (HK.out _ _ _ HKO.out).mono ?_
  rintro e w3 ⟨rfl, m, rfl⟩
  obtain ⟨⟨c0, c1⟩, _⟩ := A1.drewN m
  have HB := Lib.hid (below_drewN B2 m)
  clear HKO A1 B2
  go_wp2_with fail
  refine (HS.out _).mono ?_
  rintro e w4 ⟨rfl, hb4⟩
  have HB4 := Lib.hid (HB.out.trans (hb4.mono HB.out.size))
  clear hb4
  go_wp2
  go_ret2
  exact ⟨by rw [← HR.out]; rfl, HB4.out⟩
theorem nearestSum_any (n : Nat) (s : ByteArray) (h : TabP n s) : Gives Try.prog 24 #[.string s] (.tuple #[.int .i64 (pk (Wh.tr (Wt.sv (tb s)) n) s.size), .int .i64 (addedOf (Wh.tr (Wt.sv (tb s)) n) s.size), .bool true]) := fun w => by
  obtain ⟨f, hf⟩ : ∃ f, Wh.tr (Wt.sv (tb s)) n = f := ⟨_, rfl⟩
  obtain ⟨⟨h1, h2⟩, hb, HF, HP⟩ := spec_pack n s h f hf
  obtain ⟨U, hU⟩ : ∃ U, val s s.size = U := ⟨_, rfl⟩
  rw [hU] at HF HP
  rw [hf]
  obtain ⟨N, hN⟩ : ∃ N, s.size = N := ⟨_, rfl⟩
  rw [hN] at HP h1 h2 hb ⊢
  obtain ⟨p, hp⟩ : ∃ p, pk f N = p := ⟨_, rfl⟩
  obtain ⟨v, hv⟩ : ∃ v, f (pk f N) = v := ⟨_, rfl⟩
  have HK := peak_pack N f h1 h2 hb v p hv hp
  have hvb : -(N : Int) ≤ v ∧ v ≤ N := by rw [← hv]; exact hb _
  have HR : Hid ((if v < 0 then (1 : Int) else 0) = addedOf f N) := by unfold Hid addedOf; rw [hv]
  rw [hp]
  clear hU h hf hN hb hv hp
  go_enter Try.func24, Try.ntmps24
  go_wp2_with (go_at_call 46; refine (HF.out _).mono ?_; rintro e w1 ⟨rfl, hb1⟩)
  go_wp2_with fail
  refine (HP.out _).mono ?_
  rintro e w2 ⟨G, rfl, hown, hb2⟩
  have B1 := hb1.alloc hb1.size (.cells #[.int .i64 n, .int .u64 U] 57)
  have B2 := B1.trans (hb2.mono B1.size)
  have HKO := Lib.hid hown
  clear hown hb1 hb2 B1
  go_wp2_with fail
  refine (HK.out _ _ _ HKO.out).mono ?_
  rintro e w3 ⟨rfl, m, rfl⟩
  have HB := Lib.hid (below_drewN B2 m)
  clear HKO B2
  by_cases hv0 : v < 0
  · have HR2 : Hid (addedOf f N = 1) := by rw [← HR.out, if_pos hv0]; rfl
    go_wp2
    go_ret3
    exact ⟨by rw [HR2.out]; rfl, HB.out⟩
  · have HR2 : Hid (addedOf f N = 0) := by rw [← HR.out, if_neg hv0]; rfl
    go_wp2
    go_ret3
    exact ⟨by rw [HR2.out]; rfl, HB.out⟩
end Go.Proofs.Ytgpcacbjmjpdnaa
