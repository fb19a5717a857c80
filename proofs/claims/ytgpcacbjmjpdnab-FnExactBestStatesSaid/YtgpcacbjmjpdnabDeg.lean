/- The products of a normal form, and the degree: impl.function.products, DegreeOf, spec.l04Degree; the law FnExactDegreeOf. -/
import Derived.Test.YtgpcacbjmjpdnabNorm
import Derived.Test.YtgpcacbjmjpdnabWsp
import Derived.Test.YtgpcacbjmjpdnabWgt
import Derived.Test.YtgpcacbjmjpdnabSlice64
import Derived.Test.YtgpcacbjmjpdnabBoxT
namespace Go.Proofs.Ytgpcacbjmjpdnab
open Go.RowKit Go.PlainAid
open Wt (prodL mxL)
set_option maxHeartbeats 800000

set_option maxRecDepth 8000 in
theorem products_any (n : Nat) (g : Nat → Bool) (w : World) (hn : n ≤ 6) :
    Calls Try.prog 64 #[.agg #[.int .i64 n, .int .u64 (Wh.ob g (2 ^ n))]] w fun e w' => ∃ v, e = .returned v ∧ w'.ownsRow w.heap.size 2 1 v (prodL (Wh.mob g n) (2 ^ n)).length ((prodL (Wh.mob g n) (2 ^ n)).map (Value.int .i64)) ∧ Below w.heap.size w w' := by
  obtain ⟨i0, hi, hz0, hz1, hz2⟩ := info_parts Try.info2
  have hp := pow6 hn
  have HN : Hid (∀ W : World, Calls Try.prog 80 #[.agg #[.int .i64 n, .int .u64 (Wh.ob g (2 ^ n))]] W fun e w' => e = .returned (.agg #[.int .i64 n, .int .u64 (Wh.ob (Wh.mob g n) (2 ^ n))]) ∧ Below W.heap.size W w') := fun W => norm_any n g W hn
  obtain ⟨h, hh⟩ : ∃ h, Wh.mob g n = h := ⟨_, rfl⟩
  rw [hh] at HN ⊢
  clear hh
  obtain ⟨N, hN⟩ : ∃ N, 2 ^ n = N := ⟨_, rfl⟩
  have HZ : Hid (∀ (V : Nat) (W : World), Calls Try.prog 51 #[.agg #[.int .i64 n, .int .u64 V]] W fun e w' => e = .returned (.int .i64 N) ∧ Below W.heap.size W w') := fun V W => by
    have := size_any n V W hn
    rwa [hN] at this
  rw [hN] at HN hp ⊢
  have HV : Hid (Wh.ob h N < 18446744073709551616) := by
    have h1 := Wh.ob_lt h N
    have h2 : 2 ^ N ≤ 2 ^ 64 := Nat.pow_le_pow_right (by omega) hp.2
    unfold Hid
    omega
  have HA : Hid (∀ (u : Nat) (W : World), u < N → Calls Try.prog 75 #[.agg #[.int .i64 n, .int .u64 (Wh.ob h N)], .int .i64 u] W fun e w' => e = .returned (.int .u64 (h u).toNat) ∧ Below W.heap.size W w') := fun u W hu => by
    have := at_any n (Wh.ob h N) u W HV.out (by omega)
    rwa [Wh.ob_bit, decide_eq_true hu, Bool.true_and] at this
  obtain ⟨V, hV⟩ : ∃ V, Wh.ob h N = V := ⟨_, rfl⟩
  obtain ⟨U, hU⟩ : ∃ U, Wh.ob g N = U := ⟨_, rfl⟩
  rw [hV] at HN HA
  rw [hU] at HN ⊢
  clear hV hU hN HV
  go_enter Try.func64, Try.ntmps64
  go_wp2_with (go_at_call 80; refine (HN.out _).mono ?_; rintro e w1 ⟨rfl, hb1⟩)
  have B1 : Below w.heap.size w w1 := ((Below.refl _ _).alloc (Nat.le_refl _) _).trans (hb1.mono (by simp))
  have O1 := (own_base (ownsRow_empty w1 2 1) B1.size).alloc (.cells #[.int .i64 n, .int .u64 V] 54)
  have R1 := BT.new (w1.alloc (.cells #[] 2)) (.int .i64 n) (.int .u64 V) 54
  rw [World.size_alloc] at R1
  have B2 := (B1.alloc B1.size (.cells #[] 2)).alloc (by have := B1.size; simp; omega) (.cells #[.int .i64 n, .int .u64 V] 54)
  refine (HZ.out _ _).mono ?_
  rintro e w2 ⟨rfl, hb2⟩
  have O2 := own_far O1 hb2
  have R2 := R1.far hb2
  have B3 := B2.trans (hb2.mono B2.size)
  have hz := B1.size
  clear hb1 hb2 B1 O1 R1 B2
  go_wp2
  go_loopw [4, 5, 11] (fun v _ uv wr => ∃ u : Nat, u ≤ N ∧ uv = .int .i64 u ∧ wr.ownsRow w.heap.size 2 1 v (prodL h u).length ((prodL h u).map (Value.int .i64)) ∧ BT wr (w1.heap.size + 1) (.int .i64 n) (.int .u64 V) 54 ∧ Below w.heap.size w wr) (fun _ _ uv _ => N - (intOf uv).toNat)
  case atStart => exact ⟨0, Nat.zero_le _, rfl, O2, R2, B3⟩
  case round =>
    obtain ⟨u, hu, rfl, hown, R, B⟩ := hrel
    clear O2 R2 B3
    by_cases hlt : u < N
    · have HAu := HA.out u
      cases hb : h u with
      | false =>
        have HP := Lib.hid (Wt.prodL_no hb)
        rw [hb] at HAu
        have HAu := Lib.hid HAu
        obtain ⟨⟨c0, c1⟩, _⟩ := R.p2
        clear hb
        go_wp2_with (go_at_call 75; refine (HAu.out _ hlt).mono ?_; rintro e w3 ⟨rfl, hb3⟩)
        have hown3 := own_far hown hb3
        have R3 := R.far hb3
        have B3 := B.trans (hb3.mono B.size)
        clear hb3 hown R B c0 c1
        go_wp2
        go_roundw
        case rel => exact ⟨u + 1, by omega, by go_num, by rw [HP.out]; exact hown3, R3, B3⟩
        case measure => simp [intOf]; omega
      | true =>
        have HP := Lib.hid (Wt.prodL_yes hb)
        rw [hb] at HAu
        have HAu := Lib.hid HAu
        obtain ⟨⟨c0, c1⟩, _⟩ := R.p2
        have hle := Wt.prodL_length h u
        clear hb
        go_wp2_with (first | (go_at_call 75; refine (HAu.out _ hlt).mono ?_; rintro e w3 ⟨rfl, hb3⟩; have hown3 := own_far hown hb3; have R3 := Lib.hid (R.far hb3); have B3 := Lib.hid (B.trans (hb3.mono B.size)); have hne := Lib.hid (R3.out.not_own hown3 (by decide)); clear hb3 hown R B c0 c1) | (at_builtin; refine wpList_append_own _ rfl _ _ 27 rfl w.heap.size 2 i0 (.int .i64 0) 1 8 Try.underlying27 hi hz0 hz1 hz2 rfl (by decide) _ _ _ rfl (hown3.alloc _) ⟨w3.heap.size, 0, none⟩ 1 1 [.int .i64 u] rfl rfl (cell_one_new _ _ _) (by intro u hu; simp at hu; subst hu; rfl) (by unfold maxLen; omega) (by omega) (by have := B3.out.size; simp; omega) ?_; intro v1 w4 hown4 hgrow _))
        have B4 : Below w.heap.size w w4 := (B3.out.alloc B3.out.size _).grown hgrow (by have := B3.out.size; simp; omega) (own_block hown3)
        have R4 := (R3.out.alloc _).grown hgrow hne.out
        have HO : Hid (w4.ownsRow w.heap.size 2 1 v1 (prodL h (u + 1)).length ((prodL h (u + 1)).map (Value.int .i64))) := by
          unfold Hid
          rw [HP.out]
          simpa using hown4
        clear hown4 hgrow hown3 B3 R3 hne
        go_wp2
        go_roundw
        case rel => exact ⟨u + 1, by omega, by go_num, HO.out, R4, B4⟩
        case measure => simp [intOf]; omega
    · obtain rfl : u = N := by omega
      clear R
      go_wp2
      go_ret
      exact ⟨_, rfl, hown, B⟩
theorem tabL_at (g : Nat → Bool) {k u : Nat} (h : u < k) : (tabL g k)[u]? = some (48 + ((g u).toNat : Int)) := by simp [tabL, h]
theorem numsT_get (l : List Int) (k : Nat) (hk : k < l.length) : (strOfNums l)[k]'(by rw [strOfNums_size]; exact hk) = UInt8.ofNat (l[k]).toNat := by
  have h1 := strOfNums_data l
  have h2 : ((strOfNums l).data.toList)[k]? = some (UInt8.ofNat (l[k]).toNat) := by rw [h1]; simp [List.getElem?_eq_getElem hk]
  have h3 : (strOfNums l).data[k]? = some (UInt8.ofNat (l[k]).toNat) := by simpa using h2
  exact (Array.getElem?_eq_some_iff.1 h3).2
theorem tabL_str (g : Nat → Bool) (N u : Nat) (hu : u < N) (h : u < (strOfNums (tabL g N)).size) : (((strOfNums (tabL g N))[u]'h).toNat : Int) = 48 + ((g u).toNat : Int) := by
  have hk : u < (tabL g N).length := by rw [tabL_length]; exact hu
  have h1 : (tabL g N)[u] = 48 + ((g u).toNat : Int) := by
    have := tabL_at g hu
    rw [List.getElem?_eq_getElem hk] at this
    exact Option.some.inj this
  rw [numsT_get _ u hk, h1]
  cases g u <;> rfl
/-- a row of numbers, where it is and what it has -/
theorem own_list {w : World} {B : Nat} {e : TypeId} {v : Value} {xs : List Int} (h : w.ownsRow B e 1 v xs.length (xs.map (Value.int .i64))) :
    ∃ b cap, v = .slice b xs.length cap ∧ ((b = none ∧ xs = []) ∨ ∃ g, b = some ⟨g, 0, none⟩ ∧ xs.length ≤ cap ∧ ∀ i, (hi : i < xs.length) → w.cell? ⟨g, i, none⟩ = some (.int .i64 xs[i])) := by
  rcases SL.of_own h with ⟨rfl, rfl⟩ | ⟨g, cap, rfl, h1, _, _, h2, _⟩
  · exact ⟨none, 0, rfl, .inl ⟨rfl, rfl⟩⟩
  · exact ⟨_, cap, rfl, .inr ⟨g, rfl, h1, h2⟩⟩
end Go.Proofs.Ytgpcacbjmjpdnab
