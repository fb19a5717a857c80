/- The first bits that a register outputs: impl.RegisterBits, spec.l02Bits, spec.RegisterBits, the law FnExactRegisterBits. -/
import Derived.Test.YtapccbplmbbnnabRegLaws
import Derived.Test.YtapccbplmbbnnabBytes
namespace Go.Proofs.Ytapccbplmbbnnab
open Go.RowKit Go.PlainAid
set_option maxHeartbeats 400000

/-- the state after n steps -/
def itr (W t s : Nat) : Nat → Nat
  | 0 => s
  | n + 1 => nxt W t (itr W t s n)
theorem itr_lt {W t s : Nat} (hs : s < 2 ^ W) : ∀ n, itr W t s n < 2 ^ W := by
  intro n
  induction n with
  | zero => exact hs
  | succ n ih => exact nxt_lt ih
/-- the first k outputs -/
def rbits (W t s : Nat) : Nat → List Int
  | 0 => []
  | k + 1 => rbits W t s k ++ [48 + (itr W t s k : Int) % 2]
theorem rbits_length (W t s : Nat) : ∀ k, (rbits W t s k).length = k := by
  intro k
  induction k with
  | zero => rfl
  | succ k ih => simp [rbits, ih]

theorem own_belowR {w w1 : World} {B : Nat} {e : TypeId} {size n : Nat} {v : Value} {xs : List Value} (h : w.ownsRow B e size v n xs) (hb : Below w.heap.size w w1) : w1.ownsRow B e size v n xs := by
  obtain ⟨h1, h2 | ⟨g, cap, cur, hv, hg, hc, r⟩⟩ := h
  · exact ⟨h1, .inl h2⟩
  · exact ⟨h1, .inr ⟨g, cap, cur, hv, hg, by rw [hb.block g (Array.getElem?_eq_some_iff.1 hc).1]; exact hc, r⟩⟩

theorem own_drewNR {w : World} {B : Nat} {e : TypeId} {size n : Nat} {v : Value} {xs : List Value} (h : w.ownsRow B e size v n xs) (m : Nat) : (w.drewN m).ownsRow B e size v n xs := h

/-- a register stands in block g, and what lay below has not changed -/
def RegIn (w wr : World) (g : Nat) (x t : Int) : Prop := wr.cell? ⟨g, 0, none⟩ = some (.int .i64 x) ∧ wr.cell? ⟨g, 1, none⟩ = some (.int .i64 t) ∧ Below w.heap.size w wr ∧ w.heap.size ≤ g
theorem RegIn.drewN {w wr : World} {g : Nat} {x t : Int} (h : RegIn w wr g x t) (m : Nat) : RegIn w (wr.drewN m) g x t := ⟨h.1, h.2.1, below_drewN h.2.2.1 m, h.2.2.2⟩
theorem RegIn.lt {w wr : World} {g : Nat} {x t : Int} (h : RegIn w wr g x t) : g < wr.heap.size := World.block_lt_of_cell? wr _ h.1
theorem RegIn.call {w wr w1 : World} {g : Nat} {x t : Int} (h : RegIn w wr g x t) (hb : Below wr.heap.size wr w1) : RegIn w w1 g x t :=
  ⟨(hb.cell (p := ⟨g, 0, none⟩) h.lt).trans h.1, (hb.cell (p := ⟨g, 1, none⟩) h.lt).trans h.2.1, h.2.2.1.trans (hb.mono h.2.2.1.size), h.2.2.2⟩
theorem RegIn.own {w wr w1 : World} {g Z : Nat} {x t : Int} (h : RegIn w wr g x t) (hb : Below Z wr w1) (hZ : g < Z) : RegIn w w1 g x t :=
  ⟨(hb.cell (p := ⟨g, 0, none⟩) hZ).trans h.1, (hb.cell (p := ⟨g, 1, none⟩) hZ).trans h.2.1, h.2.2.1.trans (hb.mono (by have := h.2.2.2; omega)), h.2.2.2⟩

theorem regBits_yes (W t s N : Nat) (w : World) (hW : W ≤ 16) (ht : t < 2 ^ W) (hs : s < 2 ^ W) (hN : N ≤ 400) (hp : StateP W t s) :
    Calls Try.prog 28 #[.agg #[.int .i64 W, .int .i64 t], .int .i64 s, .int .i64 N] w fun e w' => e = .returned (.tuple #[.string (strOfNums (rbits W t s N)), .bool true]) ∧ Below w.heap.size w w' := by
  obtain ⟨i0, hi, hz0, hz1, hz2⟩ := info_parts Try.info5
  have HS := Lib.hid hp
  have H1 := Lib.hid ht
  have H2 := Lib.hid hs
  have HI : Hid (∀ w : World, Calls Try.prog 60 #[.int .i64 N, .int .i64 0, .int .i64 400] w fun e w' => e = .returned (.bool true) ∧ w = w') := fun w => btw64_b _ _ _ _ (decide_eq_true (by omega)) w
  clear hp ht hs
  go_enter Try.func28, Try.ntmps28
  go_wp2_with fail
  refine (hasState_b _ _ _ true _ (decide_eq_true HS.out)).mono ?_
  rintro e w1 ⟨rfl, hb⟩
  obtain ⟨b1, z1, c1, d1⟩ := keepR (b := w.heap.size) (x := .int .i64 W) (y := .int .i64 t) ((Below.refl w.heap.size w).alloc (Nat.le_refl _) _) hb (Nat.le_refl _) (by simp) (by simp [go_sem]) (by simp [go_sem])
  clear hb
  have HR : Hid (RegIn w w1 w.heap.size W t) := ⟨c1, d1, b1, Nat.le_refl _⟩
  clear b1 c1 d1
  go_wp2_with (first | (go_at_call 60; with_reducible refine (HI.out _).mono ?_; rintro e w2 ⟨rfl, rfl⟩) | (at_make; refine wpList_make_full _ rfl _ _ 22 rfl w1.heap.size 5 i0 _ 1 Try.underlying22 hi hz0 hz1 _ _ _ _ N rfl rfl rfl rfl (by rw [hz2]; omega) (by unfold maxLen; omega) (Nat.le_refl _) ?_; intro w3 hown hgrow))
  have hown3 : w3.ownsRow w1.heap.size 5 1 (.slice (some ⟨w1.heap.size, 0, none⟩) N N) N ((pad (rbits W t s 0) N).map (Value.int .u8)) := by rw [pad_made] at hown; exact hown
  have HR3 : Hid (RegIn w w3 w.heap.size W t) := HR.out.own ((Below.refl w1.heap.size w1).grown hgrow (Nat.le_refl _) (by simp)) z1
  clear hown hgrow HR
  go_loopw [1, 9, 23] (fun st _ i wr => ∃ k : Nat, k ≤ N ∧ st = .int .i64 (itr W t s k) ∧ i = .int .i64 k ∧ wr.ownsRow w1.heap.size 5 1 (.slice (some ⟨w1.heap.size, 0, none⟩) N N) N ((pad (rbits W t s k) N).map (Value.int .u8)) ∧ Hid (RegIn w wr w.heap.size W t)) (fun _ _ i _ => N - (intOf i).toNat)
  case atStart => exact ⟨0, Nat.zero_le _, rfl, rfl, hown3, HR3⟩
  case round =>
    obtain ⟨k, hk, rfl, rfl, hown, HR⟩ := hrel
    clear hown3 HR3
    by_cases hlt : k < N
    · obtain ⟨S, hS⟩ : ∃ S, itr W t s k = S := ⟨_, rfl⟩
      have HS1 : Hid (S < 2 ^ W) := by unfold Hid; rw [← hS]; exact itr_lt H2.out k
      have hS2 : S < 65536 := by
        have : 2 ^ W ≤ 2 ^ 16 := Nat.pow_le_pow_right (by omega) hW
        have := HS1.out
        omega
      have HN : Hid (itr W t s (k + 1) = nxt W t S) := by unfold Hid; rw [← hS]; rfl
      have HB : Hid (rbits W t s (k + 1) = rbits W t s k ++ [48 + (S : Int) % 2]) := by unfold Hid; rw [← hS]; rfl
      have hb := and_one_i64' (S : Int)
      rw [hS]
      clear hS
      obtain ⟨hc, hf⟩ := own_next hown (rbits_length W t s k) hlt
      have c1 := HR.out.1
      have d1 := HR.out.2.1
      go_wp2_with fail
      refine (regNext_any W t S _ hW H1.out HS1.out).mono ?_
      rintro e w4 ⟨rfl, hb4⟩
      have hown4 := own_belowR (own_step hown (rbits_length W t s k) hlt (48 + (S : Int) % 2)) hb4
      have HR4 : Hid (RegIn w w4 w.heap.size W t) := (HR.out.own ((Below.refl w1.heap.size wr).setCell (p := ⟨w1.heap.size, k, none⟩) (Nat.le_refl _) _) z1).call hb4
      clear hown HR hb4 c1 d1 hc hf
      go_wp2
      go_roundw
      case rel => exact ⟨k + 1, by omega, by rw [HN.out], by go_num, by rw [HB.out]; exact hown4, HR4⟩
      case measure => simp [intOf]; omega
    · obtain rfl : k = N := by omega
      have hp : Hid (pad (rbits W t s k) k = rbits W t s k) := by
        unfold Hid
        have := pad_full (rbits W t s k)
        rwa [rbits_length] at this
      rw [hp.out] at hown
      have hcv := conv_own (P := Try.prog) (dst := 9) Try.underlying22 Try.underlying5 Try.underlying9 hown
      clear hown
      go_wp2
      go_ret2
      exact ⟨rfl, HR.out.2.2.1⟩
theorem regBits_no (x t s n : Int) (w : World) (h : ¬ (StateP x t s ∧ 0 ≤ n ∧ n ≤ 400)) :
    Calls Try.prog 28 #[.agg #[.int .i64 x, .int .i64 t], .int .i64 s, .int .i64 n] w fun e w' => e = .returned (.tuple #[.string ⟨#[]⟩, .bool false]) ∧ Below w.heap.size w w' := by
  by_cases hp : StateP x t s
  · have HS := Lib.hid hp
    have HI : Hid (∀ w : World, Calls Try.prog 60 #[.int .i64 n, .int .i64 0, .int .i64 400] w fun e w' => e = .returned (.bool false) ∧ w = w') := fun w => btw64_b _ _ _ _ (decide_eq_false fun y => h ⟨hp, y⟩) w
    clear hp h
    go_enter Try.func28, Try.ntmps28
    go_wp2_with fail
    refine (hasState_b _ _ _ true _ (decide_eq_true HS.out)).mono ?_
    rintro e w1 ⟨rfl, hb⟩
    have b1 := ((Below.refl w.heap.size w).alloc (Nat.le_refl _) _).trans (hb.mono (by simp))
    clear hb
    go_wp2_with (go_at_call 60; with_reducible refine (HI.out _).mono ?_; rintro e w2 ⟨rfl, rfl⟩)
    go_ret2
    exact ⟨rfl, b1⟩
  · have HS := Lib.hid hp
    clear hp h
    go_enter Try.func28, Try.ntmps28
    go_wp2_with fail
    refine (hasState_b _ _ _ false _ (decide_eq_false HS.out)).mono ?_
    rintro e w1 ⟨rfl, hb⟩
    have b1 := ((Below.refl w.heap.size w).alloc (Nat.le_refl _) _).trans (hb.mono (by simp))
    clear hb
    go_wp2
    go_ret2
    exact ⟨rfl, b1⟩
theorem l02Bits_any (g W t s N : Nat) (w0 w : World) (hR : RegIn w0 w g W t) (hW : W ≤ 16) (ht : t < 65536) (hs : s < 2 ^ W) (hN : N ≤ 400) :
    Calls Try.prog 103 #[.pointer (some ⟨g, 0, none⟩), .int .i64 s, .int .i64 N] w fun e w' => e = .returned (.string (strOfNums (rbits W t s N))) ∧ RegIn w0 w' g W t := by
  obtain ⟨i0, hi, hz0, hz1, hz2⟩ := info_parts Try.info5
  have H2 := Lib.hid hs
  have hgw := hR.lt
  have HR := Lib.hid hR
  have HR1 : Hid (RegIn w0 (w.alloc (.cells #[] 5)) g W t) := hR.own ((Below.refl w.heap.size w).alloc (Nat.le_refl _) _) hgw
  have HO := Lib.hid (ownsRow_empty w 5 1)
  clear hs hR
  go_enter Try.func103, Try.ntmps103
  go_wp2
  go_loopw [1, 7, 8, 9, 10] (fun st v i _ _ wr => ∃ k : Nat, k ≤ N ∧ st = .int .i64 (itr W t s k) ∧ i = .int .i64 k ∧ w.heap.size ≤ wr.heap.size ∧ Hid (wr.ownsRow w.heap.size 5 1 v k ((rbits W t s k).map (Value.int .u8))) ∧ Hid (RegIn w0 wr g W t)) (fun _ _ i _ _ _ => N - (intOf i).toNat)
  case atStart => exact ⟨0, Nat.zero_le _, rfl, rfl, by simp, HO.out, HR1⟩
  case round =>
    obtain ⟨k, hk, rfl, rfl, hz, HOk, HRk⟩ := hrel
    clear HO HR1
    by_cases hlt : k < N
    · obtain ⟨S, hS⟩ : ∃ S, itr W t s k = S := ⟨_, rfl⟩
      have HS1 : Hid (S < 2 ^ W) := by unfold Hid; rw [← hS]; exact itr_lt H2.out k
      have hS2 : S < 65536 := by
        have : 2 ^ W ≤ 2 ^ 16 := Nat.pow_le_pow_right (by omega) hW
        have := HS1.out
        omega
      have HN : Hid (itr W t s (k + 1) = nxt W t S) := by unfold Hid; rw [← hS]; rfl
      have HB : Hid (rbits W t s (k + 1) = rbits W t s k ++ [48 + (S : Int) % 2]) := by unfold Hid; rw [← hS]; rfl
      rw [hS]
      clear hS
      go_wp2_with fail
      refine (l02Step_any g W t S _ HRk.out.1 HRk.out.2.1 hW ht HS1.out).mono ?_
      rintro e w4 ⟨rfl, m, rfl⟩
      have hown := own_drewNR HOk.out m
      have HR4 : Hid (RegIn w0 (wr.drewN m) g W t) := HRk.out.drewN m
      have hz4 : w.heap.size ≤ (wr.drewN m).heap.size := hz
      clear HOk HRk hz
      obtain ⟨wx, hwx⟩ : ∃ x, wr.drewN m = x := ⟨_, rfl⟩
      rw [hwx] at hown HR4 hz4 ⊢
      clear hwx
      go_wp2_with (at_builtin; refine wpList_append_own _ rfl _ _ 22 rfl w.heap.size 5 i0 (.int .u8 0) 1 1 Try.underlying22 hi hz0 hz1 hz2 rfl (by decide) _ _ _ rfl (hown.alloc _) ⟨wx.heap.size, 0, none⟩ 1 1 [.int .u8 (48 + (S : Int) % 2)] rfl rfl (cell_one_new _ _ _) (by intro u hu; simp at hu; subst hu; rfl) (by unfold maxLen; omega) (by omega) (by simp; omega) ?_; intro v1 w1 hown1 hgrow _)
      have hz1 : w.heap.size ≤ w1.heap.size := by have := hgrow.size; simp at this; omega
      have HR1 : Hid (RegIn w0 w1 g W t) := HR4.out.own (((Below.refl w.heap.size wx).alloc hz4 _).grown hgrow (by simp; omega) (own_block hown)) hgw
      have HO1 : Hid (w1.ownsRow w.heap.size 5 1 v1 (k + 1) ((rbits W t s (k + 1)).map (Value.int .u8))) := by
        unfold Hid
        rw [HB.out]
        simpa using hown1
      clear hown1 hgrow hown HR4 hz4
      go_wp2
      go_roundw
      case rel => exact ⟨k + 1, by omega, by rw [HN.out], by go_num, hz1, HO1.out, HR1⟩
      case measure => simp [intOf]; omega
    · obtain rfl : k = N := by omega
      have hown := HOk.out
      have hcv := conv_own (P := Try.prog) (dst := 9) Try.underlying22 Try.underlying5 Try.underlying9 hown
      clear hown HOk
      go_wp2
      go_ret
      exact ⟨rfl, HRk.out⟩
end Go.Proofs.Ytapccbplmbbnnab
