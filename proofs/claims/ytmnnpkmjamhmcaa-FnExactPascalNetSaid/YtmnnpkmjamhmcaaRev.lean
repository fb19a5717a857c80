/- Reversed nets: impl.unitRows, slices.Reverse, impl.ReversedNet, spec.ReversedNet, the law. -/
import Derived.Test.YtmnnpkmjamhmcaaSSn
import Derived.Test.YtmnnpkmjamhmcaaPtA
namespace Go.Proofs.Ytmnnpkmjamhmcaa
open Go.RowKit Go.PlainAid
set_option maxHeartbeats 1600000
set_option maxRecDepth 20000

def units (b : Nat) : List Int := (List.range b).map fun i => ((2 ^ i : Nat) : Int)
theorem units_length (b : Nat) : (units b).length = b := by simp [units]
theorem units_succ (b : Nat) : units (b + 1) = units b ++ [((2 ^ b : Nat) : Int)] := by simp [units, List.range_succ]
/-- the first of the falling ones -/
def downs (b k : Nat) : List Int := (List.range k).map fun i => ((2 ^ (b - 1 - i) : Nat) : Int)
theorem downs_length (b k : Nat) : (downs b k).length = k := by simp [downs]
theorem downs_succ (b k : Nat) : downs b (k + 1) = downs b k ++ [((2 ^ (b - 1 - k) : Nat) : Int)] := by simp [downs, List.range_succ]
theorem wrap2 {k : Nat} (h : k ≤ 5) : wrap64 ((2 : Int) ^ k) = ((2 ^ k : Nat) : Int) := by
  have e : (2 : Int) ^ k = ((2 ^ k : Nat) : Int) := by simp
  have h2 : 2 ^ k ≤ 2 ^ 5 := Nat.pow_le_pow_right (by omega) h
  rw [e]
  obtain ⟨P, hP⟩ : ∃ P : Nat, 2 ^ k = P := ⟨_, rfl⟩
  rw [hP] at h2 ⊢
  unfold wrap64; omega
/-- the list of units behind so many exchanges -/
def rvU (b : Nat) : Nat → List Int
  | 0 => units b
  | k + 1 => swp (rvU b k) k (b - 1 - k)
theorem rvU_end : ∀ b, b < 7 → rvU b (b / 2) = downs b b := by decide
theorem Rw.appR {B g n cap : Nat} {xs : List Int} {wr w1 : World} {v1 : Value} {x : Int} {o : Obj} (hown : w1.ownsRow B 2 1 v1 (n + 1) (xs.map (Value.int .i64) ++ [.int .i64 x])) (hg : (wr.alloc o).grownBy w1 (Value.slice (some ⟨g, 0, none⟩) n cap).ownBlock) (hat : v1.ownBlock = (Value.slice (some ⟨g, 0, none⟩) n cap).ownBlock ∨ v1.ownBlock = some (wr.alloc o).heap.size) :
    ∃ g1 cap1, v1 = .slice (some ⟨g1, 0, none⟩) (n + 1) cap1 ∧ Rw B g1 (n + 1) cap1 (xs ++ [x]) w1 ∧ (g1 = g ∨ g1 = wr.heap.size + 1) ∧ wr.grownBy w1 (some g) := by
  obtain ⟨g1, cap1, rfl, hg1⟩ := own_shape hown (by omega)
  refine ⟨g1, cap1, rfl, ?_, ?_, grow_trans (gr_alloc (gr_refl _ _) o) hg⟩
  · unfold Rw
    simpa using hown
  · simpa [Value.ownBlock] using hat
/-- two rows in a new slice of slices -/
theorem LW.two {lo : Nat} {w : World} {u v : Value} {f : Nat → List Int} (hu : SL lo w.heap.size w u (f 0)) (hv : SL lo w.heap.size w v (f 1)) (hne : u.ownBlock = none ∨ u.ownBlock ≠ v.ownBlock) (hlo : lo ≤ w.heap.size) :
    LW lo (w.heap.size + 1) (w.alloc (.cells #[u, v] 35)) (.slice (some ⟨w.heap.size, 0, none⟩) 2 2) 2 f := by
  have hb : Below w.heap.size w (w.alloc (.cells #[u, v] 35)) := (Below.refl _ _).alloc (Nat.le_refl _) _
  have hu2 := (hu.below hb).up (Nat.le_succ w.heap.size)
  have hv2 := (hv.below hb).up (Nat.le_succ w.heap.size)
  refine .inr ⟨w.heap.size, 2, fun d => if d = 0 then u else v, rfl, Nat.le_refl _, ⟨hlo, by omega⟩, by simp, fun d hd => ?_, fun d hd => ?_, fun d hd e => ?_, fun d e hd he hne2 => ?_⟩
  · have : d = 0 ∨ d = 1 := by omega
    rcases this with rfl | rfl <;> simp [go_sem]
  · have : d = 0 ∨ d = 1 := by omega
    rcases this with rfl | rfl
    · exact hu2
    · exact hv2
  · have : d = 0 ∨ d = 1 := by omega
    rcases this with rfl | rfl
    · have := hu.in w.heap.size e; omega
    · have := hv.in w.heap.size e; omega
  · have : (d = 0 ∧ e = 1) ∨ (d = 1 ∧ e = 0) := by omega
    rcases this with ⟨rfl, rfl⟩ | ⟨rfl, rfl⟩
    · exact hne
    · show v.ownBlock = none ∨ v.ownBlock ≠ u.ownBlock
      rcases hne with h | h
      · rw [h]
        cases v.ownBlock with
        | none => exact .inl rfl
        | some q => exact .inr (by simp)
      · exact .inr (Ne.symm h)
theorem unit_any (n : Nat) (w : World) (hn : n ≤ 6) :
    Calls Try.prog 84 #[.int .i64 n] w fun e w' => e = .returned (.slice (some ⟨w.heap.size, 0, none⟩) n n) ∧ Rw w.heap.size w.heap.size n n (units n) w' ∧ Below w.heap.size w w' := by
  obtain ⟨i0, hi, hz0, hz1, hz2⟩ := info_parts Try.info2
  go_enter Try.func84, Try.ntmps84
  go_wp2_with (at_make; refine wpList_make_full _ rfl _ _ 35 rfl w.heap.size 2 i0 _ 1 Try.underlying35 hi hz0 hz1 _ _ _ _ n rfl rfl rfl rfl (by rw [hz2]; omega) (by unfold maxLen; omega) (Nat.le_refl _) ?_; intro w3 hown hgrow)
  have hown3 : w3.ownsRow w.heap.size 2 1 (.slice (some ⟨w.heap.size, 0, none⟩) n n) n ((pad (units 0) n).map (Value.int .i64)) := by rw [pad_made] at hown; exact hown
  have B3 : Hid (Below w.heap.size w w3) := (Below.refl w.heap.size w).grown hgrow (Nat.le_refl _) (by simp)
  clear hown hgrow
  go_loopw [9] (fun iv wr => ∃ k : Nat, k ≤ n ∧ iv = .int .i64 k ∧ wr.ownsRow w.heap.size 2 1 (.slice (some ⟨w.heap.size, 0, none⟩) n n) n ((pad (units k) n).map (Value.int .i64)) ∧ Hid (Below w.heap.size w wr)) (fun iv _ => n - (intOf iv).toNat)
  case atStart => exact ⟨0, Nat.zero_le _, rfl, hown3, B3⟩
  case round =>
    obtain ⟨k, hk, rfl, hown, HB⟩ := hrel
    clear hown3 B3
    by_cases hlt : k < n
    · obtain ⟨hd, hf⟩ := own_next hown (units_length k) hlt
      have hW := wrap2 (k := k) (by omega)
      obtain ⟨P, hP⟩ : ∃ P : Nat, 2 ^ k = P := ⟨_, rfl⟩
      have HO := Lib.hid (own_step hown (units_length k) hlt ((2 ^ k : Nat) : Int))
      have HS := Lib.hid (units_succ k)
      rw [hP] at hW HO HS
      have HB2 : Hid (Below w.heap.size w (wr.setCell ⟨w.heap.size, k, none⟩ (.int .i64 P))) := HB.out.setCell (p := ⟨w.heap.size, k, none⟩) (Nat.le_refl _) _
      clear hown HB hP
      go_wp2
      go_roundw
      case rel => exact ⟨k + 1, by omega, by go_num, by rw [HS.out]; exact HO.out, HB2⟩
      case measure => simp [intOf]; omega
    · obtain rfl : k = n := by omega
      have hp : Hid (pad (units k) k = units k) := by
        unfold Hid
        have h1 := pad_full (units k)
        rwa [units_length] at h1
      rw [hp.out] at hown
      have HO := Lib.hid hown
      clear hown
      go_wp2
      go_ret
      exact ⟨rfl, HO.out, HB.out⟩
theorem revU_any (B g n cap : Nat) (w : World) (h : Rw B g n cap (units n) w) (hn : n ≤ 6) :
    Calls Try.prog 85 #[.slice (some ⟨g, 0, none⟩) n cap] w fun e w' => e = .returned (.tuple #[]) ∧ Rw B g n cap (downs n n) w' ∧ w.grownBy w' (some g) := by
  have H0 : Hid (Rw B g n cap (rvU n 0) w ∧ w.grownBy w (some g)) := ⟨h, World.grownBy.refl _ _⟩
  clear h
  go_enter Try.func85, Try.ntmps85
  go_wp2
  go_loopw [2, 3] (fun iv jv wr => ∃ k : Nat, 2 * k ≤ n ∧ iv = .int .i64 k ∧ jv = .int .i64 ((n : Int) - 1 - k) ∧ Hid (Rw B g n cap (rvU n k) wr ∧ w.grownBy wr (some g))) (fun iv _ _ => n - (intOf iv).toNat)
  case atStart => exact ⟨0, by omega, rfl, by simp, H0⟩
  case round =>
    obtain ⟨k, hk, rfl, rfl, HK⟩ := hrel
    clear H0
    by_cases hlt : (k : Int) < (n : Int) - 1 - k
    · obtain ⟨j, hj⟩ : ∃ j, n - 1 - k = j := ⟨_, rfl⟩
      have hj2 : (n : Int) - 1 - (k : Int) = (j : Int) := by omega
      have HJ := Lib.hid hj
      have hkn : k < n := by omega
      have hjn : j < n := by omega
      have hl := HK.out.1.len
      have c1 := HK.out.1.cell hkn
      have c2 := HK.out.1.cell hjn
      have f1 := HK.out.1.frz k
      have f2 := HK.out.1.frz j
      obtain ⟨x, hx⟩ : ∃ x, (rvU n k).getD k 0 = x := ⟨_, rfl⟩
      obtain ⟨y, hy⟩ : ∃ y, (rvU n k).getD j 0 = y := ⟨_, rfl⟩
      have HS : Hid (((rvU n k).set k y).set j x = rvU n (k + 1)) := by unfold Hid; rw [rvU, hj, swp, hx, hy]
      rw [hx] at c1
      rw [hy] at c2
      have H2 := Lib.hid (HK.out.1.set k y)
      have H3 := Lib.hid ((HK.out.1.set k y).set j x)
      have c3 : (wr.setCell ⟨g, k, none⟩ (.int .i64 y)).drew.cell? ⟨g, j, none⟩ = some (.int .i64 y) := by
        have := H2.out.cell hjn
        show (wr.setCell ⟨g, k, none⟩ (.int .i64 y)).cell? ⟨g, j, none⟩ = _
        rw [this, getD_set7 (by omega)]
        split
        · rfl
        · rw [hy]
      have f3 : (wr.setCell ⟨g, k, none⟩ (.int .i64 y)).drew.frozen? ⟨g, j, none⟩ = false := H2.out.frz j
      have HG : Hid (w.grownBy ((wr.setCell ⟨g, k, none⟩ (.int .i64 y)).setCell ⟨g, j, none⟩ (.int .i64 x)) (some g)) := grow_set (grow_set HK.out.2 _ _) _ _
      rw [hj2] at hlt ⊢
      have hlt3 : k < j := by omega
      clear hx hy HK hl hj
      go_wp2
      go_region
      go_wp2
      go_roundw
      case rel => exact ⟨k + 1, by omega, by go_num, by have := HJ.out; congr 1; omega, by rw [← HS.out]; exact ⟨H3.out.drewN 1, grow_drewN HG.out 1⟩⟩
      case measure => simp [intOf]; omega
    · obtain rfl : k = n / 2 := by omega
      have HE : Hid (rvU n (n / 2) = downs n n) := rvU_end n (by omega)
      rw [HE.out] at HK
      go_wp2
      go_returns
      exact ⟨rfl, HK.out.1, HK.out.2⟩
/-- the rows of two matrices -/
def two2 (a b : List Int) : Nat → List Int := fun d => if d = 0 then a else if d = 1 then b else []
theorem two2_0 (a b : List Int) : two2 a b 0 = a := rfl
theorem two2_1 (a b : List Int) : two2 a b 1 = b := rfl
theorem szl_two2 (a b : List Int) : szl (two2 a b) 2 = a.length + b.length := by simp [szl, two2]
theorem revNet_yes (b : Nat) (w : World) (hb : b ≤ 6) :
    Calls Try.prog 48 #[.int .i64 b] w fun e w' => ∃ v, e = .returned (.tuple #[.agg #[.int .i64 b, v], .bool true]) ∧ LW w.heap.size w'.heap.size w' v 2 (two2 (downs b b) (units b)) ∧ Below w.heap.size w w' := by
  have HB : Hid (∀ W, Calls Try.prog 63 #[.int .i64 b] W fun e w' => e = .returned (.bool true) ∧ W = w') := netB_any b true (decide_eq_true (by omega))
  have A0 := D2.new w (.int .i64 0) (.slice none 0 0) 27
  have B0 : Below w.heap.size w (w.alloc (.cells #[.int .i64 0, .slice none 0 0] 27)) := (Below.refl _ _).alloc (Nat.le_refl _) _
  have z0 : (w.alloc (.cells #[.int .i64 0, .slice none 0 0] 27)).heap.size = w.heap.size + 1 := by simp
  go_enter Try.func48, Try.ntmps48
  go_wp2_with (go_at_call 63; with_reducible refine (HB.out _).mono ?_; rintro e w1 ⟨rfl, rfl⟩)
  generalize w.alloc (.cells #[.int .i64 0, .slice none 0 0] 27) = w0 at A0 B0 z0 ⊢
  refine (unit_any b w0 hb).mono ?_
  rintro e w1 ⟨rfl, r1, hb1⟩
  have HZ0 := Lib.hid z0
  clear z0
  go_wp2_with fail
  refine (revU_any w0.heap.size w0.heap.size b b w1 r1 hb).mono ?_
  rintro e w2 ⟨rfl, r2, hg2⟩
  have z1 := hb1.size
  have z2 := hg2.size
  have hlt1 := r1.lt
  have A2 := (A0.far hb1).grow hg2 (fun e => by have := A0.lt; have := Option.some.inj e; omega)
  have B2 := (B0.trans (hb1.mono B0.size)).grown hg2 (Nat.le_trans B0.size z1) (fun q e => by cases e; exact B0.size)
  clear A0 B0 r1 hb1 hg2
  go_wp2_with fail
  refine (unit_any b w2 hb).mono ?_
  rintro e w3 ⟨rfl, r3, hb3⟩
  have z3 := hb3.size
  have hlt3 := r3.lt
  have A3 := A2.far hb3
  have B3 := B2.trans (hb3.mono B2.size)
  have hs1 := (r2.far hb3).sl
  have hs2 := r3.sl
  have hA := A3.lt
  have zb := B2.size
  clear A2 B2 r2 r3 hb3
  have h0 := HZ0.out
  have hs1p := (hs1.setb (b := w.heap.size) (j := 0) (by omega) (.int .i64 b)).setb (b := w.heap.size) (j := 1) (by omega) (.slice (some ⟨w3.heap.size, 0, none⟩) 2 2)
  have hs2p := ((hs2.lower7 (show w0.heap.size ≤ w2.heap.size by omega)).setb (b := w.heap.size) (j := 0) (by omega) (.int .i64 b)).setb (b := w.heap.size) (j := 1) (by omega) (.slice (some ⟨w3.heap.size, 0, none⟩) 2 2)
  have A4 := (A3.put (.int .i64 b) (.slice (some ⟨w3.heap.size, 0, none⟩) 2 2)).alloc (.cells #[.slice (some ⟨w0.heap.size, 0, none⟩) b b, .slice (some ⟨w2.heap.size, 0, none⟩) b b] 35)
  have B4 := (below_putD B3 (Nat.le_refl _) (.int .i64 b) (.slice (some ⟨w3.heap.size, 0, none⟩) 2 2)).alloc (by rw [size_putD]; omega) (.cells #[.slice (some ⟨w0.heap.size, 0, none⟩) b b, .slice (some ⟨w2.heap.size, 0, none⟩) b b] 35)
  have hL := LW.two (lo := w0.heap.size) (w := putD w3 w.heap.size (.int .i64 b) (.slice (some ⟨w3.heap.size, 0, none⟩) 2 2)) (u := .slice (some ⟨w0.heap.size, 0, none⟩) b b) (v := .slice (some ⟨w2.heap.size, 0, none⟩) b b) (f := two2 (downs b b) (units b)) (by rw [size_putD]; exact hs1p) (by rw [size_putD]; exact hs2p) (.inr (by simp [Value.ownBlock]; omega)) (by rw [size_putD]; omega)
  rw [size_putD] at hL
  have HP := Lib.hid (hL.widen (lo' := w.heap.size) (by omega) (Nat.le_refl _) hL.top_le)
  have HB9 := Lib.hid B4
  have hz9 : w3.heap.size + 1 = (((w3.setCell ⟨w.heap.size, 0, none⟩ (.int .i64 b)).setCell ⟨w.heap.size, 1, none⟩ (.slice (some ⟨w3.heap.size, 0, none⟩) 2 2)).alloc (.cells #[.slice (some ⟨w0.heap.size, 0, none⟩) b b, .slice (some ⟨w2.heap.size, 0, none⟩) b b] 35)).heap.size := by simp [World.setCell]
  have HZ9 := Lib.hid hz9
  obtain ⟨p0, p1⟩ := A4.1
  obtain ⟨⟨x0, x1⟩, xf0, xf1⟩ := id A3
  unfold putD at p0 p1 HP HB9
  clear A3 A4 B3 B4 hs1 hs2 hs1p hs2p hL h0 hz9
  go_wp2
  exact bodyPost_ret (v := .tuple #[.agg #[.int .i64 b, .slice (some ⟨w3.heap.size, 0, none⟩) 2 2], .bool true]) (by simp [results, Try.results48, go_sem, p0, p1]) rfl ⟨_, rfl, by rw [← HZ9.out]; exact HP.out, HB9.out⟩
theorem revNet_no (b : Int) (w : World) (h : ¬ (0 ≤ b ∧ b ≤ 6)) :
    Calls Try.prog 48 #[.int .i64 b] w fun e w' => e = .returned (.tuple #[.agg #[.int .i64 0, .slice none 0 0], .bool false]) ∧ Below w.heap.size w w' := by
  have HB : Hid (∀ W, Calls Try.prog 63 #[.int .i64 b] W fun e w' => e = .returned (.bool false) ∧ W = w') := netB_any b false (decide_eq_false h)
  clear h
  go_enter Try.func48, Try.ntmps48
  go_wp2_with (go_at_call 63; with_reducible refine (HB.out _).mono ?_; rintro e w1 ⟨rfl, rfl⟩)
  go_returns
  exact ⟨rfl, by go_grown⟩
theorem specRev_no (b : Int) (w : World) (h : ¬ (0 ≤ b ∧ b ≤ 6)) :
    Calls Try.prog 47 #[.int .i64 b] w fun e w' => e = .returned (.tuple #[.agg #[.int .i64 0, .slice none 0 0], .bool false]) ∧ Below w.heap.size w w' := by
  have HB : Hid (∀ W, Calls Try.prog 83 #[.int .i64 b] W fun e w' => e = .returned (.bool false) ∧ W = w') := l10Bits_any b false (decide_eq_false h)
  clear h
  go_enter Try.func47, Try.ntmps47
  go_wp2_with (go_at_call 83; with_reducible refine (HB.out _).mono ?_; rintro e w1 ⟨rfl, rfl⟩)
  go_returns
  exact ⟨rfl, by go_grown⟩
theorem specRev_yes (b : Nat) (w : World) (hb : b ≤ 6) :
    Calls Try.prog 47 #[.int .i64 b] w fun e w' => ∃ p q, e = .returned (.tuple #[.agg #[.int .i64 b, .slice p 2 q], .bool true]) ∧ RR w'.heap.size w' p 2 (two2 (downs b b) (units b)) ∧ Below w.heap.size w w' := by
  obtain ⟨i0, hi, hz0, hz1, hz2⟩ := info_parts Try.info2
  have HB : Hid (∀ W, Calls Try.prog 83 #[.int .i64 b] W fun e w' => e = .returned (.bool true) ∧ W = w') := l10Bits_any b true (decide_eq_true (by omega))
  have A0 := ((D2.new w (.int .i64 0) (.slice none 0 0) 27).alloc (.cells #[] 2)).alloc (.cells #[] 2)
  obtain ⟨wa, hwa⟩ : ∃ wa, w.alloc (.cells #[.int .i64 0, .slice none 0 0] 27) = wa := ⟨_, rfl⟩
  have za : wa.heap.size = w.heap.size + 1 := by rw [← hwa]; simp
  have HI : Hid (Rw (w.heap.size + 1) (w.heap.size + 1) 0 0 (downs b 0) ((wa.alloc (.cells #[] 2)).alloc (.cells #[] 2)) ∧ Rw (w.heap.size + 1) (w.heap.size + 1 + 1) 0 0 (units 0) ((wa.alloc (.cells #[] 2)).alloc (.cells #[] 2)) ∧ Below w.heap.size w ((wa.alloc (.cells #[] 2)).alloc (.cells #[] 2)) ∧ D2 ((wa.alloc (.cells #[] 2)).alloc (.cells #[] 2)) w.heap.size (.int .i64 0) (.slice none 0 0)) := by
    refine ⟨?_, ?_, ?_, by rw [← hwa]; exact A0⟩
    · have h8 := Rw.far (show Rw wa.heap.size wa.heap.size 0 0 [] (wa.alloc (.cells #[] 2)) from ownsRow_empty wa 2 1) ((Below.refl _ _).alloc (Nat.le_refl _) (.cells #[] 2))
      rw [za] at h8
      exact h8
    · have h9 := ownsRow_empty (wa.alloc (.cells #[] 2)) 2 1
      have e9 : (wa.alloc (.cells #[] 2)).heap.size = wa.heap.size + 1 := by simp
      rw [e9, za] at h9
      exact own_base h9 (by omega)
    · rw [← hwa]
      exact ((((Below.refl _ w).alloc (Nat.le_refl _) _).alloc (by simp) _).alloc (by simp; omega) _)
  clear A0
  go_enter Try.func47, Try.ntmps47
  go_wp2_with (go_at_call 83; with_reducible refine (HB.out _).mono ?_; rintro e w1 ⟨rfl, rfl⟩)
  have HZA := Lib.hid za
  clear za hwa
  go_loopw [4, 5, 6] (fun ov tv iv wr => ∃ (k g1 c1 g2 c2 : Nat), k ≤ b ∧ iv = .int .i64 k ∧ ov = .slice (some ⟨g1, 0, none⟩) k c1 ∧ tv = .slice (some ⟨g2, 0, none⟩) k c2 ∧ ¬ g1 = g2 ∧ Hid (Rw (w.heap.size + 1) g1 k c1 (downs b k) wr ∧ Rw (w.heap.size + 1) g2 k c2 (units k) wr ∧ Below w.heap.size w wr ∧ D2 wr w.heap.size (.int .i64 0) (.slice none 0 0))) (fun _ _ iv _ => b - (intOf iv).toNat)
  case atStart => exact ⟨0, _, _, _, _, Nat.zero_le _, rfl, by first | rfl | simp, by first | rfl | simp, by simp, HI⟩
  case round =>
    obtain ⟨k, g1, c1, g2, c2, hk, rfl, rfl, rfl, hne, HK⟩ := hrel
    clear HI
    by_cases hlt : k < b
    · obtain ⟨q, hq⟩ : ∃ q, b - 1 - k = q := ⟨_, rfl⟩
      have hq2 : (b : Int) - 1 - (k : Int) = (q : Int) := by omega
      have hW1 := wrap2 (k := q) (by omega)
      have hW2 := wrap2 (k := k) (by omega)
      obtain ⟨P, hP⟩ : ∃ P : Nat, 2 ^ q = P := ⟨_, rfl⟩
      obtain ⟨Q, hQ⟩ : ∃ Q : Nat, 2 ^ k = Q := ⟨_, rfl⟩
      have HS1 : Hid (downs b (k + 1) = downs b k ++ [(P : Int)]) := by unfold Hid; rw [downs_succ, hq, hP]
      have HS2 : Hid (units (k + 1) = units k ++ [(Q : Int)]) := by unfold Hid; rw [units_succ, hQ]
      rw [hP] at hW1
      rw [hQ] at hW2
      have hlt1 := HK.out.1.lt
      have hlt2 := HK.out.2.1.lt
      have hge1 := HK.out.1.le
      have hge2 := HK.out.2.1.le
      clear hP hQ hq
      go_upto_region 9 with (at_builtin; refine wpList_append_own_at _ rfl _ _ 35 rfl (w.heap.size + 1) 2 i0 (.int .i64 0) 1 8 Try.underlying35 hi hz0 hz1 hz2 rfl (by decide) _ _ _ rfl (World.ownsRow.alloc (HK.out.1) _) ⟨wr.heap.size, 0, none⟩ 1 1 [.int .i64 P] rfl rfl (by first | exact cell_one_new _ _ _ | (have := cell_one_new wr (.int .i64 P) 2; simpa [hW1, hW2] using this)) (by intro u hu; simp at hu; subst hu; rfl) (by unfold maxLen; omega) (by omega) (by first | (simp; done) | (simp; omega)) ?_; intro v1 w1 hown1 hgrow1 hnil1 hat1)
      obtain ⟨g3, c3, rfl, hr3, hg3, hgr⟩ := Rw.appR hown1 hgrow1 hat1
      rw [← HS1.out] at hr3
      have hlt3 := hr3.lt
      have HK2 : Hid (Rw (w.heap.size + 1) g3 (k + 1) c3 (downs b (k + 1)) w1 ∧ Rw (w.heap.size + 1) g2 k c2 (units k) w1 ∧ Below w.heap.size w w1 ∧ D2 w1 w.heap.size (.int .i64 0) (.slice none 0 0)) :=
        ⟨hr3, HK.out.2.1.grown hgr (fun e => hne (Option.some.inj e)), HK.out.2.2.1.grown hgr (by omega) (fun q e => by cases e; omega), HK.out.2.2.2.grow hgr (fun e => by have := Option.some.inj e; omega)⟩
      have hne3 : ¬ g3 = g2 := by rcases hg3 with rfl | rfl <;> omega
      have hzz := hgr.size
      clear hown1 hgrow1 hnil1 hat1 hr3 hgr HK hg3
      obtain ⟨wm, rfl⟩ : ∃ wm, wm = w1 := ⟨_, rfl⟩
      go_wp2_with (at_builtin; refine wpList_append_own_at _ rfl _ _ 35 rfl (w.heap.size + 1) 2 i0 (.int .i64 0) 1 8 Try.underlying35 hi hz0 hz1 hz2 rfl (by decide) _ _ _ rfl (World.ownsRow.alloc (HK2.out.2.1) _) ⟨wm.heap.size, 0, none⟩ 1 1 [.int .i64 Q] rfl rfl (by first | exact cell_one_new _ _ _ | (have := cell_one_new wm (.int .i64 Q) 2; simpa [hW1, hW2] using this)) (by intro u hu; simp at hu; subst hu; rfl) (by unfold maxLen; omega) (by omega) (by first | (simp; done) | (simp; omega)) ?_; intro v1 w1 hown1 hgrow1 hnil1 hat1)
      obtain ⟨g4, c4, rfl, hr4, hg4, hgr⟩ := Rw.appR hown1 hgrow1 hat1
      rw [← HS2.out] at hr4
      have HK3 : Hid (Rw (w.heap.size + 1) g3 (k + 1) c3 (downs b (k + 1)) w1 ∧ Rw (w.heap.size + 1) g4 (k + 1) c4 (units (k + 1)) w1 ∧ Below w.heap.size w w1 ∧ D2 w1 w.heap.size (.int .i64 0) (.slice none 0 0)) :=
        ⟨HK2.out.1.grown hgr (fun e => hne3 (Option.some.inj e).symm), hr4, HK2.out.2.2.1.grown hgr (by omega) (fun q e => by cases e; omega), HK2.out.2.2.2.grow hgr (fun e => by have := Option.some.inj e; omega)⟩
      have hne4 : ¬ g3 = g4 := by rcases hg4 with rfl | rfl <;> omega
      clear hown1 hgrow1 hnil1 hat1 hr4 hgr HK2 hg4
      go_wp2
      go_roundw
      case rel => exact ⟨k + 1, g3, c3, g4, c4, by omega, by go_num, by first | rfl | go_num, by first | rfl | go_num, hne4, HK3⟩
      case measure => simp [intOf]; omega
    · obtain rfl : k = b := by omega
      have hlt1 := HK.out.1.lt
      have hge1 := HK.out.1.le
      have hge2 := HK.out.2.1.le
      have hA := HK.out.2.2.2.lt
      have hs1 := HK.out.1.sl
      have hs2 := HK.out.2.1.sl
      have hs1p := (hs1.setb (b := w.heap.size) (j := 0) (by omega) (.int .i64 k)).setb (b := w.heap.size) (j := 1) (by omega) (.slice (some ⟨wr.heap.size, 0, none⟩) 2 2)
      have hs2p := (hs2.setb (b := w.heap.size) (j := 0) (by omega) (.int .i64 k)).setb (b := w.heap.size) (j := 1) (by omega) (.slice (some ⟨wr.heap.size, 0, none⟩) 2 2)
      have A4 := (HK.out.2.2.2.put (.int .i64 k) (.slice (some ⟨wr.heap.size, 0, none⟩) 2 2)).alloc (.cells #[.slice (some ⟨g1, 0, none⟩) k c1, .slice (some ⟨g2, 0, none⟩) k c2] 35)
      have B4 := (below_putD HK.out.2.2.1 (Nat.le_refl _) (.int .i64 k) (.slice (some ⟨wr.heap.size, 0, none⟩) 2 2)).alloc (by rw [size_putD]; omega) (.cells #[.slice (some ⟨g1, 0, none⟩) k c1, .slice (some ⟨g2, 0, none⟩) k c2] 35)
      have hL := LW.two (lo := w.heap.size + 1) (w := putD wr w.heap.size (.int .i64 k) (.slice (some ⟨wr.heap.size, 0, none⟩) 2 2)) (u := .slice (some ⟨g1, 0, none⟩) k c1) (v := .slice (some ⟨g2, 0, none⟩) k c2) (f := two2 (downs k k) (units k)) (by rw [size_putD]; exact hs1p) (by rw [size_putD]; exact hs2p) (.inr (by simpa [Value.ownBlock] using hne)) (by rw [size_putD]; omega)
      rw [size_putD] at hL
      have HP := Lib.hid (hL.rrOf.2.up hL.top_le)
      have HB9 := Lib.hid B4
      obtain ⟨p0, p1⟩ := A4.1
      obtain ⟨⟨x0, x1⟩, xf0, xf1⟩ := HK.out.2.2.2
      unfold putD at p0 p1 HP HB9
      clear A4 B4 hs1 hs2 hs1p hs2p hL HK
      go_wp2
      exact bodyPost_ret (v := .tuple #[.agg #[.int .i64 k, .slice (some ⟨wr.heap.size, 0, none⟩) 2 2], .bool true]) (by simp [results, Try.results47, go_sem, p0, p1]) rfl ⟨_, _, rfl, HP.out, HB9.out⟩
theorem lawRev (b : Int) (w : World) : Calls Try.prog 11 #[.int .i64 b] w fun e w' => e = .returned (.bool true) ∧ Below w.heap.size w w' := by
  by_cases h : 0 ≤ b ∧ b ≤ 6
  · obtain ⟨b', rfl⟩ := Int.eq_ofNat_of_zero_le h.1
    exact lawReversedNet_core b' b' 2 _ true w (by rw [szl_two2, downs_length, units_length]; omega) (fun W => specRev_yes b' W (by omega)) (fun W => revNet_yes b' W (by omega))
  · exact lawReversedNet_core b 0 0 (fun _ => []) false w (by simp [szl])
      (fun W => (specRev_no b W h).mono fun e w' ⟨h1, h2⟩ => ⟨_, _, h1, RR.zero, h2⟩)
      (fun W => (revNet_no b W h).mono fun e w' ⟨h1, h2⟩ => ⟨_, h1, .inl ⟨rfl, rfl, Nat.le_refl _⟩, h2⟩)
end Go.Proofs.Ytmnnpkmjamhmcaa
