/- Valid fractions: impl.ValidFraction, spec.l01FIs. -/
import Derived.Test.YtmnnpkmjamhmcabGcd
namespace Go.Proofs.Ytmnnpkmjamhmcab
open Go.RowKit Go.PlainAid
set_option maxHeartbeats 400000

/-- the parts of a valid fraction -/
def VF (n d : Int) : Prop := 1 ≤ d ∧ d ≤ 1000000000000000000 ∧ -1000000000000000000 ≤ n ∧ n ≤ 1000000000000000000 ∧ gcdI n d = 1
theorem VF.out {n d : Int} (h : VF n d) : (1 ≤ d ∧ d ≤ 1000000000000000000 ∧ -1000000000000000000 ≤ n ∧ n ≤ 1000000000000000000) ∧ gcdI n d = 1 := ⟨⟨h.1, h.2.1, h.2.2.1, h.2.2.2.1⟩, h.2.2.2.2⟩

theorem ret_bool {a b : Bool} (h : a = b) : Ending.returned (.bool a) = .returned (.bool b) := by rw [h]

theorem valid_yes (n d : Int) (w : World) (h : VF n d) :
    Calls Try.prog 135 #[.agg #[.int .i64 n, .int .i64 d]] w fun e w' => e = .returned (.bool true) ∧ Below w.heap.size w w' := by
  obtain ⟨⟨h1, h2, h3, h4⟩, h5⟩ := h.out
  have hg : (gcdI n d == 1) = true := by simp [h5]
  clear h h5
  go_enter Try.func135, Try.ntmps135
  go_wp2_with (first | (go_at_call 107; refine (isPart_yes _ _ (by omega) (by omega)).mono ?_; rintro e w' ⟨rfl, rfl⟩) | (go_at_call 108; refine (common_any _ _ _ (by omega) (by omega) (by omega) (by omega)).mono ?_; rintro e w' ⟨rfl, m, rfl⟩))
  go_ret
  exact ⟨rfl, below_drewN ((Below.refl _ _).alloc (Nat.le_refl _) _) _⟩

theorem valid_no (n d : Int) (w : World) (h : ¬ VF n d) :
    Calls Try.prog 135 #[.agg #[.int .i64 n, .int .i64 d]] w fun e w' => e = .returned (.bool false) ∧ Below w.heap.size w w' := by
  by_cases h1 : 0 < d
  · by_cases h2 : d ≤ 1000000000000000000
    · by_cases h3 : -1000000000000000000 ≤ n ∧ n ≤ 1000000000000000000
      · obtain ⟨h3, h4⟩ := h3
        have hg : (gcdI n d == 1) = false := by
          simp
          exact fun x => h ⟨by omega, h2, h3, h4, x⟩
        clear h
        go_enter Try.func135, Try.ntmps135
        go_wp2_with (first | (go_at_call 107; refine (isPart_yes _ _ (by omega) (by omega)).mono ?_; rintro e w' ⟨rfl, rfl⟩) | (go_at_call 108; refine (common_any _ _ _ (by omega) (by omega) (by omega) (by omega)).mono ?_; rintro e w' ⟨rfl, m, rfl⟩))
        go_ret
        exact ⟨rfl, below_drewN ((Below.refl _ _).alloc (Nat.le_refl _) _) _⟩
      · have H3 := Lib.hid h3
        clear h h3
        go_enter Try.func135, Try.ntmps135
        go_wp2_with (go_at_call 107; first | (refine (isPart_yes _ _ (by omega) (by omega)).mono ?_; rintro e w' ⟨rfl, rfl⟩) | (refine (isPart_no _ _ H3.out).mono ?_; rintro e w' ⟨rfl, rfl⟩))
        go_ret
        exact ⟨rfl, (Below.refl _ _).alloc (Nat.le_refl _) _⟩
    · have H2 : Hid (¬ (-1000000000000000000 ≤ d ∧ d ≤ 1000000000000000000)) := fun x => h2 x.2
      clear h h2
      go_enter Try.func135, Try.ntmps135
      go_wp2_with (go_at_call 107; refine (isPart_no _ _ H2.out).mono ?_; rintro e w' ⟨rfl, rfl⟩)
      go_ret
      exact ⟨rfl, (Below.refl _ _).alloc (Nat.le_refl _) _⟩
  · clear h
    go_enter Try.func135, Try.ntmps135
    go_wp2
    go_ret
    exact ⟨rfl, (Below.refl _ _).alloc (Nat.le_refl _) _⟩

theorem quietL {P : Program} {f : FuncId} {args : Array Value} {W : World} {n : Nat} {v : Value} (h : Calls P f args (W.drewN n) fun e w' => e = .returned v ∧ W.drewN n = w') :
    Calls P f args (W.drewN n) fun e w'' => e = .returned v ∧ ∃ m, w'' = W.drewN m := h.mono fun _ _ ⟨he, hw⟩ => ⟨he, n, hw.symm⟩

theorem fis_yes (n d : Int) (w : World) (h : VF n d) :
    Calls Try.prog 181 #[.agg #[.int .i64 n, .int .i64 d]] w fun e w' => e = .returned (.bool true) ∧ Below w.heap.size w w' := by
  obtain ⟨⟨h1, h2, h3, h4⟩, h5⟩ := h.out
  have hg : (gcdI (n.natAbs : Nat) d == 1) = true := by
    have : gcdI (n.natAbs : Nat) d = gcdI n d := by simp [gcdI, Int.gcd]
    simp [this, h5]
  clear h h5
  go_enter Try.func181, Try.ntmps181
  go_wp2
  go_quiet ((first | (go_at_call 78; exact quietL (l00In_yes _ _ _ _ (by omega) (by omega))) | (go_at_call 65; exact quietL (l00Max_abs _ _ (by omega) (by omega))) | (go_at_call 117; exact quietL (l01Gcd_any _ _ _ (by omega) (by omega) (by omega) (by omega)))))
  go_wp2
  go_ret
  exact ⟨rfl, below_drewN ((Below.refl _ _).alloc (Nat.le_refl _) _) _⟩

theorem fis_no (n d : Int) (w : World) (h : ¬ VF n d) :
    Calls Try.prog 181 #[.agg #[.int .i64 n, .int .i64 d]] w fun e w' => e = .returned (.bool false) ∧ Below w.heap.size w w' := by
  by_cases h1 : 1 ≤ d ∧ d ≤ 1000000000000000000
  · obtain ⟨h1, h2⟩ := h1
    by_cases h3 : -1000000000000000000 ≤ n ∧ n ≤ 1000000000000000000
    · obtain ⟨h3, h4⟩ := h3
      have hg : (gcdI (n.natAbs : Nat) d == 1) = false := by
        have : gcdI (n.natAbs : Nat) d = gcdI n d := by simp [gcdI, Int.gcd]
        simp [this]
        exact fun x => h ⟨by omega, h2, h3, h4, x⟩
      clear h
      go_enter Try.func181, Try.ntmps181
      go_wp2
      go_quiet ((first | (go_at_call 78; exact quietL (l00In_yes _ _ _ _ (by omega) (by omega))) | (go_at_call 65; exact quietL (l00Max_abs _ _ (by omega) (by omega))) | (go_at_call 117; exact quietL (l01Gcd_any _ _ _ (by omega) (by omega) (by omega) (by omega)))))
      go_wp2
      go_ret
      exact ⟨rfl, below_drewN ((Below.refl _ _).alloc (Nat.le_refl _) _) _⟩
    · have H3 := Lib.hid h3
      clear h h3
      go_enter Try.func181, Try.ntmps181
      go_wp2
      go_quiet ((first | (go_at_call 78; exact quietL (l00In_yes _ _ _ _ (by omega) (by omega))) | (go_at_call 78; exact quietL (l00In_no _ _ _ _ H3.out))))
      go_wp2
      go_ret
      exact ⟨rfl, below_drewN ((Below.refl _ _).alloc (Nat.le_refl _) _) _⟩
  · have H1 := Lib.hid h1
    clear h h1
    go_enter Try.func181, Try.ntmps181
    go_wp2
    go_quiet ((go_at_call 78; exact quietL (l00In_no _ _ _ _ H1.out)))
    go_wp2
    go_ret
    exact ⟨rfl, below_drewN ((Below.refl _ _).alloc (Nat.le_refl _) _) _⟩


theorem toFrac_any (n d : Int) (w : World) :
    Calls Try.prog 84 #[.agg #[.int .i64 n, .int .i64 d]] w fun e w' => e = .returned (.agg #[.int .i64 n, .int .i64 d]) ∧ Below w.heap.size w w' := by
  go_enter Try.func84, Try.ntmps84
  go_wp2
  go_returns
  exact ⟨rfl, by go_grown⟩

theorem eqFrac_yes (n d : Int) (w : World) :
    Calls Try.prog 31 #[.agg #[.int .i64 n, .int .i64 d], .agg #[.int .i64 n, .int .i64 d]] w fun e w' => e = .returned (.bool true) ∧ Below w.heap.size w w' := by
  have h1 : (n != n) = false := by simp
  have h2 : (d != d) = false := by simp
  go_enter Try.func31, Try.ntmps31
  go_wp2
  go_ret
  exact ⟨rfl, by go_grown⟩

/-- the two cells of a block stand, and so does all below B, over a call that only makes blocks -/
theorem keep2 {B b : Nat} {w W w1 : World} {x y : Value} (ha : Below B w W) (hb : Below W.heap.size W w1) (hB : B ≤ b) (hlt : b < W.heap.size)
    (h0 : W.cell? ⟨b, 0, none⟩ = some x) (h1 : W.cell? ⟨b, 1, none⟩ = some y) :
    Below B w w1 ∧ b < w1.heap.size ∧ w1.cell? ⟨b, 0, none⟩ = some x ∧ w1.cell? ⟨b, 1, none⟩ = some y :=
  ⟨ha.trans (hb.mono (by omega)), Nat.lt_of_lt_of_le hlt hb.size, (hb.cell (p := ⟨b, 0, none⟩) hlt).trans h0, (hb.cell (p := ⟨b, 1, none⟩) hlt).trans h1⟩

end Go.Proofs.Ytmnnpkmjamhmcab
