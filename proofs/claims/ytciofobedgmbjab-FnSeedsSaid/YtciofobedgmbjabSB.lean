/- Seeds behind what is seen: impl.SeedsBehind, spec.SeedsBehind, the law. -/
import Derived.Test.YtciofobedgmbjabS7P
import Derived.Test.YtciofobedgmbjabTmA
import Derived.Deep.LoopGhost
import Derived.WalkMore
namespace Go.Proofs.Ytciofobedgmbjab
open Go.RowKit Go.PlainAid
set_option maxHeartbeats 800000

/-- the first k numbers are shown by a seed -/
def fitS (a c x : Nat) (ys : List Int) : Nat → Bool
  | 0 => true
  | k + 1 => fitS a c x ys k && decide (((itc 65536 a c x k / 256 : Nat) : Int) = ys.getD k 0)
/-- the seeds among the first l -/
def sds (a c : Nat) (ys : List Int) (S : Nat) : Nat → List Int
  | 0 => []
  | l + 1 => if fitS a c (256 * S + l) ys ys.length then sds a c ys S l ++ [((256 * S + l : Nat) : Int)] else sds a c ys S l
theorem sds_length (a c : Nat) (ys : List Int) (S : Nat) : ∀ l, (sds a c ys S l).length ≤ l := by
  intro l
  induction l with
  | zero => exact Nat.le_refl _
  | succ l ih =>
    rw [sds]
    split
    · rw [List.length_append]; simp; omega
    · omega
theorem fit_no {a c x : Nat} {ys : List Int} {k : Nat} (h : fitS a c x ys k = false) : ∀ n, fitS a c x ys (k + n) = false := by
  intro n
  induction n with
  | zero => exact h
  | succ n ih => rw [← Nat.add_assoc, fitS, ih]; rfl
def SdP (a c : Int) (ys : List Int) : Prop := (0 ≤ a ∧ a ≤ 65535) ∧ (0 ≤ c ∧ c ≤ 65535) ∧ (1 ≤ ys.length ∧ ys.length ≤ 64) ∧ ∀ (i : Nat) (x : Int), ys[i]? = some x → 0 ≤ x ∧ x ≤ 255
theorem seed_or (S k : Nat) (hS : S < 256) (hk : k < 256) : bits .or .i64 ((S : Int) * 256) (k : Int) = ((256 * S + k : Nat) : Int) := by
  have h := Nat.two_pow_add_eq_or_of_lt (i := 8) (b := k) (by omega) S
  rw [show (S : Int) * 256 = ((256 * S : Nat) : Int) by omega]
  show IntKind.i64.wrap ((BitVec.ofInt 64 ((256 * S : Nat) : Int) ||| BitVec.ofInt 64 (k : Int)).toNat : Int) = _
  rw [BitVec.toNat_or, BitVec.ofInt_natCast, BitVec.ofInt_natCast, BitVec.toNat_ofNat, BitVec.toNat_ofNat, Nat.mod_eq_of_lt (by omega), Nat.mod_eq_of_lt (by omega), show 256 * S = 2 ^ 8 * S by omega, ← h, IntKind.wrap_i64]
  omega
theorem seeds_no (a c : Int) (p : Option Addr) (n cap : Nat) (ys : List Int) (w : World) (h : RO w.heap.size w p ys) (hn : ys.length = n) (hl : n ≤ 1048576) (hP : ¬ SdP a c ys) :
    Calls Try.prog 20 #[.int .i64 a, .int .i64 c, .slice p n cap] w fun e w' => e = .returned (.tuple #[.slice none 0 0, .bool false]) ∧ w = w' := by
  obtain ⟨b1, e1⟩ : ∃ b1, decide (0 ≤ a ∧ a ≤ 65535) = b1 := ⟨_, rfl⟩
  obtain ⟨b2, e2⟩ : ∃ b1, decide (0 ≤ c ∧ c ≤ 65535) = b1 := ⟨_, rfl⟩
  obtain ⟨b3, e3⟩ : ∃ b1, decide ((1 : Int) ≤ (n : Int) ∧ (n : Int) ≤ 64) = b1 := ⟨_, rfl⟩
  obtain ⟨b4, e4⟩ : ∃ b4 : Bool, b4 = true ↔ ∀ (i : Nat) (x : Int), ys[i]? = some x → 0 ≤ x ∧ x ≤ 255 := by
    by_cases g : ∀ (i : Nat) (x : Int), ys[i]? = some x → 0 ≤ x ∧ x ≤ 255
    · exact ⟨true, fun _ => g, fun _ => rfl⟩
    · exact ⟨false, fun e => absurd e (by simp), fun k => absurd k g⟩
  have H1 : Hid (∀ W : World, Calls Try.prog 63 #[.int .i64 a] W fun e w' => e = .returned (.bool b1) ∧ W = w') := fun W => isWord_b _ _ W e1
  have H2 : Hid (∀ W : World, Calls Try.prog 63 #[.int .i64 c] W fun e w' => e = .returned (.bool b2) ∧ W = w') := fun W => isWord_b _ _ W e2
  have H3 : Hid (∀ W : World, Calls Try.prog 67 #[.int .i64 n, .int .i64 1, .int .i64 64] W fun e w' => e = .returned (.bool b3) ∧ W = w') := fun W => by
    cases b3
    · exact btwI_no _ _ _ W (by simpa using e3)
    · have := of_decide_eq_true e3; exact btwI_yes _ _ _ W this.1 this.2
  have H4 : Hid (Calls Try.prog 62 #[.slice p n cap, .int .i64 0, .int .i64 255] w fun e w' => e = .returned (.bool b4) ∧ w = w') := areB_any p n cap ys 0 255 w h hn hl b4 e4
  have HC : b1 = false ∨ (b1 = true ∧ b2 = false) ∨ (b1 = true ∧ b2 = true ∧ b3 = false) ∨ (b1 = true ∧ b2 = true ∧ b3 = true ∧ b4 = false) := by
    cases b1
    · exact .inl rfl
    · cases b2
      · exact .inr (.inl ⟨rfl, rfl⟩)
      · cases b3
        · exact .inr (.inr (.inl ⟨rfl, rfl, rfl⟩))
        · cases b4
          · exact .inr (.inr (.inr ⟨rfl, rfl, rfl, rfl⟩))
          · have k3 := of_decide_eq_true e3
            exact absurd ⟨of_decide_eq_true e1, of_decide_eq_true e2, by omega, e4.1 rfl⟩ hP
  clear e1 e2 e3 e4 h hn hP
  rcases HC with rfl | ⟨rfl, rfl⟩ | ⟨rfl, rfl, rfl⟩ | ⟨rfl, rfl, rfl, rfl⟩
  all_goals
    go_enter Try.func20, Try.ntmps20
    go_wp2
    go_step3
    go_wp2_with (first | (go_at_call 63; first | (with_reducible refine (H1.out _).mono ?_; rintro e w1 ⟨rfl, rfl⟩) | (with_reducible refine (H2.out _).mono ?_; rintro e w1 ⟨rfl, rfl⟩)) | (go_at_call 67; with_reducible refine (H3.out _).mono ?_; rintro e w1 ⟨rfl, rfl⟩) | (go_at_call 62; with_reducible refine (H4.out).mono ?_; rintro e w1 ⟨rfl, rfl⟩))
    try rw [Exit.noGoto_ret]
    go_ret2
    exact ⟨rfl, rfl⟩
set_option maxRecDepth 10000 in
theorem seeds_yes (a c : Nat) (p : Option Addr) (N cap : Nat) (ys : List Int) (w : World) (h : RO w.heap.size w p ys) (hn : ys.length = N) (hl : 1 ≤ N) (hl2 : N ≤ 64) (ha : a ≤ 65535) (hc : c ≤ 65535) (hy : ∀ (i : Nat) (x : Int), ys[i]? = some x → 0 ≤ x ∧ x ≤ 255) (S : Nat) (hS : ys[0]? = some (S : Int)) :
    Calls Try.prog 20 #[.int .i64 a, .int .i64 c, .slice p N cap] w (ListRet w (sds a c ys S 256) true) := by
  obtain ⟨i0, hi, hz0, hz1, hz2⟩ := info_parts Try.info2
  have hS1 := hy 0 _ hS
  have hS2 : S < 256 := by omega
  have H1 : Hid (∀ W : World, Calls Try.prog 63 #[.int .i64 a] W fun e w' => e = .returned (.bool true) ∧ W = w') := fun W => isWord_b _ _ W (decide_eq_true (by omega))
  have H2 : Hid (∀ W : World, Calls Try.prog 63 #[.int .i64 c] W fun e w' => e = .returned (.bool true) ∧ W = w') := fun W => isWord_b _ _ W (decide_eq_true (by omega))
  have H3 : Hid (∀ W : World, Calls Try.prog 67 #[.int .i64 N, .int .i64 1, .int .i64 64] W fun e w' => e = .returned (.bool true) ∧ W = w') := fun W => btwI_yes _ _ _ W (by omega) (by omega)
  have H4 : Hid (Calls Try.prog 62 #[.slice p N cap, .int .i64 0, .int .i64 255] w fun e w' => e = .returned (.bool true) ∧ w = w') := areB_any p N cap ys 0 255 w h hn (by omega) true ⟨fun _ => hy, fun _ => rfl⟩
  have HX : Hid (∀ (x : Nat) (W : World), x ≤ 65535 → Calls Try.prog 68 #[.agg #[.int .i64 65536, .int .i64 a, .int .i64 c], .int .i64 x] W fun e w' => e = .returned (.int .i64 (nx 65536 a c x)) ∧ Below W.heap.size W w') := fun x W hx => nextK_any 65536 a c x W (by omega) (by omega) (by omega) (by omega) (by omega)
  obtain ⟨g0, off, rfl, hg0, hc0⟩ := h 0 _ hS
  rw [Nat.add_zero] at hc0
  have HR := Lib.hid h
  have HN := Lib.hid hn
  have HY := Lib.hid hy
  clear h hn hy hS hS1 ha hc
  have K0 : Hid (KAt w.heap.size w (w.heap.size + 1) (.int .i64 65536) (.int .i64 a) (.int .i64 c) (((w.alloc (.cells #[] 2)).alloc (.cells #[.int .i64 65536, .int .i64 a, .int .i64 c] 71)))) := by
    have h1 := KAt.new (w.alloc (.cells #[] 2)) (.int .i64 65536) (.int .i64 a) (.int .i64 c) 71
    obtain ⟨k0, k1, k2, k3, k4, k5⟩ := h1
    simp only [World.size_alloc] at k0 k1 k2 k3 k4 k5
    exact ⟨k0, k1, k2, by omega, by simp, ((Below.refl w.heap.size w).alloc (Nat.le_refl _) _).trans (k5.mono (by omega))⟩
  have R0 : Hid (Rw w.heap.size w.heap.size 0 0 (sds a c ys S 0) ((w.alloc (.cells #[] 2)).alloc (.cells #[.int .i64 65536, .int .i64 a, .int .i64 c] 71))) :=
    (Rw.empty w).far ((Below.refl _ _).alloc (Nat.le_refl _) _)
  have hsx : IntKind.i64.wrap ((S : Int) * 256) = (S : Int) * 256 := IntWalk.i64_in _ (by omega)
  have HO : Hid (∀ k : Nat, k < 256 → bits .or .i64 ((S : Int) * 256) (k : Int) = ((256 * S + k : Nat) : Int)) := fun k hk => seed_or S k hS2 hk
  go_enter Try.func20, Try.ntmps20
  go_wp2
  go_step3
  go_wp2_with (first | (go_at_call 63; first | (with_reducible refine (H1.out _).mono ?_; rintro e w1 ⟨rfl, rfl⟩) | (with_reducible refine (H2.out _).mono ?_; rintro e w1 ⟨rfl, rfl⟩)) | (go_at_call 67; with_reducible refine (H3.out _).mono ?_; rintro e w1 ⟨rfl, rfl⟩) | (go_at_call 62; with_reducible refine (H4.out).mono ?_; rintro e w1 ⟨rfl, rfl⟩))
  clear H1 H2 H3 H4
  go_step3
  go_wp2
  go_loopg [9, 38] 256 (fun gh sv iv wr => ∃ k g2 len cap2 : Nat, k + gh = 256 ∧ len = (sds a c ys S k).length ∧ sv = .slice (some ⟨g2, 0, none⟩) len cap2 ∧ iv = .int .i64 k ∧ Hid (Rw w.heap.size g2 len cap2 (sds a c ys S k) wr ∧ g2 ≠ w.heap.size + 1) ∧ Hid (KAt w.heap.size w (w.heap.size + 1) (.int .i64 65536) (.int .i64 a) (.int .i64 c) wr))
  case atStart => exact ⟨0, _, _, _, by omega, rfl, rfl, rfl, ⟨R0, by omega⟩, K0⟩
  case round =>
    obtain ⟨k, g2, len, cap2, hk, hlen, rfl, rfl, HS, HK⟩ := hrel
    have HL := Lib.hid hlen
    clear R0 K0 hlen
    cases gk with
    | zero =>
      obtain rfl : k = 256 := by omega
      go_wp2
      try rw [Exit.noGoto_ret]
      go_ret2
      exact ⟨_, rfl, HS.out.1.sl, HK.out.all⟩
    | succ gh =>
      have hk2 : k < 256 := by omega
      have hkI : (k : Int) < 256 := by omega
      have ho := HO.out k hk2
      have hX : 256 * S + k < 65536 := by omega
      have hc1 := (HK.out.all.cell (p := ⟨g0, off, none⟩) hg0).trans hc0
      have hl256 : len ≤ 256 := by rw [HL.out]; have := sds_length a c ys S k; omega
      obtain ⟨X, hXX⟩ : ∃ X, 256 * S + k = X := ⟨_, rfl⟩
      rw [hXX] at ho hX
      have HXX := Lib.hid hXX
      have HO2 := Lib.hid ho
      clear hXX
      go_wp2
      clear ho hc1
      go_loopg [12, 50] N (fun g3 xv jv wy => ∃ j x : Nat, j + g3 = N ∧ xv = .int .i64 x ∧ jv = .int .i64 j ∧ x ≤ 65535 ∧ Hid (x = itc 65536 a c X j) ∧ Hid (fitS a c X ys j = true) ∧ Hid (Rw w.heap.size g2 len cap2 (sds a c ys S k) wy ∧ g2 ≠ w.heap.size + 1) ∧ Hid (KAt w.heap.size w (w.heap.size + 1) (.int .i64 65536) (.int .i64 a) (.int .i64 c) wy))
      case atStart => exact ⟨0, X, by omega, rfl, rfl, by omega, rfl, rfl, HS, HK⟩
      case round =>
        obtain ⟨j, x, hj, rfl, rfl, hx, HI, HF, HSy, HKy⟩ := hrel
        clear HS HK
        cases gk with
        | zero =>
          obtain rfl : j = N := by omega
          have HE : Hid (sds a c ys S (k + 1) = sds a c ys S k ++ [(X : Int)]) := by
            unfold Hid
            rw [sds, HXX.out, HN.out, HF.out]
            rfl
          have hzz := HKy.out.all.size
          have HXX2 := HXX.out
          go_wp2_with (at_builtin; refine wpList_append_own_at _ rfl _ _ 31 rfl w.heap.size 2 i0 (.int .i64 0) 1 8 Try.underlying31 hi hz0 hz1 hz2 rfl (by decide) _ _ _ rfl (World.ownsRow.alloc (HSy.out.1) _) ⟨wr.heap.size, 0, none⟩ 1 1 [.int .i64 X] rfl rfl (cell_one_new _ _ _) (by intro u hu; simp at hu; subst hu; rfl) (by unfold maxLen; omega) (by omega) (by first | (simp; done) | (simp; omega)) ?_; intro v1 w1 hown1 hgrow1 hnil1 hat1)
          obtain ⟨g1, cap1, rfl, hr1, hg1, hgr⟩ := Rw.app HSy.out.1 hown1 hgrow1 hat1
          have HB1 : Hid (Below w.heap.size w w1) := HKy.out.all.grown hgr hzz (fun q e => by cases e; exact HSy.out.1.le)
          have HS5 : Hid (Rw w.heap.size g1 (len + 1) cap1 (sds a c ys S (k + 1)) w1 ∧ g1 ≠ w.heap.size + 1) := by
            unfold Hid
            rw [HE.out]
            refine ⟨hr1, ?_⟩
            have := HSy.out.2
            have h5 := HKy.out.2.2.2.2.1
            omega
          have HK5 : Hid (KAt w.heap.size w (w.heap.size + 1) (.int .i64 65536) (.int .i64 a) (.int .i64 c) w1) := by
            obtain ⟨k0, k1, k2, k3, k4, k5⟩ := HKy.out
            have hb := hgr.block (w.heap.size + 1) k4 (by have := HSy.out.2; simp; omega)
            exact ⟨(World.cell?_of_block (a := ⟨w.heap.size + 1, 0, none⟩) hb).trans k0, (World.cell?_of_block (a := ⟨w.heap.size + 1, 1, none⟩) hb).trans k1, (World.cell?_of_block (a := ⟨w.heap.size + 1, 2, none⟩) hb).trans k2, k3, Nat.lt_of_lt_of_le k4 hgr.size, HB1.out⟩
          have HL5 : Hid (len + 1 = (sds a c ys S (k + 1)).length) := by unfold Hid; rw [HE.out, List.length_append, ← HL.out]; rfl
          clear hown1 hgrow1 hnil1 hat1 hr1 hg1 hgr HSy HKy HB1 HF HI
          go_wp2
          go_roundg gh
          case measure => omega
          case rel => exact ⟨k + 1, g1, len + 1, cap1, by omega, HL5.out, by first | rfl | go_num, by go_num, HS5, HK5⟩
        | succ g3 =>
          have hjN : j < N := by omega
          have hjI : (j : Int) < (N : Int) := by omega
          obtain ⟨y, hy⟩ : ∃ y, ys[j]? = some y := ⟨_, List.getElem?_eq_getElem (by have := HN.out; omega)⟩
          obtain ⟨g4, off4, e4, hg4, hc4⟩ := HR.out j y hy
          cases e4
          have cy := (HKy.out.all.cell (p := ⟨g0, off + j, none⟩) hg4).trans hc4
          have hyd : ys.getD j 0 = y := by rw [List.getD_eq_getElem?_getD, hy]; rfl
          obtain ⟨k0, k1, k2, _⟩ := HKy.out
          clear hc4 hy
          by_cases e : (x : Int) / 256 = y
          · have HF2 : Hid (fitS a c X ys (j + 1) = true) := by
              unfold Hid
              rw [fitS, HF.out, ← HI.out, hyd, ← e]
              simp
            have t1 : (((x : Int) / 256) != y) = false := by simpa using e
            have HI2 : Hid (nx 65536 a c x = itc 65536 a c X (j + 1)) := by unfold Hid; rw [itc_succ, ← HI.out]
            have hx2 : nx 65536 a c x ≤ 65535 := by have := nx_lt (m := 65536) (by omega) a c x; omega
            clear e HF HI hyd
            go_wp2_with fail
            refine (HX.out x _ hx).mono ?_
            rintro e w5 ⟨rfl, hb⟩
            have HS5 : Hid (Rw w.heap.size g2 len cap2 (sds a c ys S k) w5 ∧ g2 ≠ w.heap.size + 1) := ⟨HSy.out.1.far hb, HSy.out.2⟩
            have HK5 := Lib.hid (HKy.out.below hb)
            clear hb HSy HKy cy k0 k1 k2
            generalize nx 65536 a c x = z at hx2 HI2 ⊢
            go_wp2
            go_roundg g3
            case measure => omega
            case rel => exact ⟨j + 1, z, by omega, rfl, by go_num, hx2, HI2, HF2, HS5, HK5⟩
          · have t1 : (((x : Int) / 256) != y) = true := by simpa using e
            have HNO : Hid (sds a c ys S (k + 1) = sds a c ys S k) := by
              have hf : fitS a c X ys (j + 1) = false := by
                rw [fitS, ← HI.out, hyd]
                have : decide (((x / 256 : Nat) : Int) = y) = false := by
                  rw [decide_eq_false_iff_not]
                  intro e2
                  exact e (by omega)
                rw [this, Bool.and_false]
              have hf2 := fit_no hf (N - (j + 1))
              rw [show j + 1 + (N - (j + 1)) = N by omega] at hf2
              unfold Hid
              rw [sds, HXX.out, HN.out, hf2]
              rfl
            have HS5 : Hid (Rw w.heap.size g2 len cap2 (sds a c ys S (k + 1)) wr ∧ g2 ≠ w.heap.size + 1) := by unfold Hid; rw [HNO.out]; exact HSy.out
            have HL5 : Hid (len = (sds a c ys S (k + 1)).length) := by unfold Hid; rw [HNO.out]; exact HL.out
            clear e HF HI hyd HSy
            go_wp2
            go_roundg gh
            case measure => omega
            case rel => exact ⟨k + 1, g2, len, cap2, by omega, HL5.out, rfl, by go_num, HS5, HKy⟩
theorem in_fst {ys : List Int} {k : Nat} (h : ∀ i x, i < k → ys[i]? = some x → 0 ≤ x ∧ x ≤ 255) {y : Int} (hy : ys[k]? = some y) (hb : 0 ≤ y ∧ y ≤ 255) : ∀ i x, i < k + 1 → ys[i]? = some x → 0 ≤ x ∧ x ≤ 255 := fun i x hi hx => by
  by_cases e : i = k
  · subst e
    rw [hy] at hx
    cases hx
    exact hb
  · exact h i x (by omega) hx
theorem specSeeds_no (a c : Int) (p : Option Addr) (n cap : Nat) (ys : List Int) (w : World) (h : RO w.heap.size w p ys) (hn : ys.length = n) (hl : n ≤ 1048576) (hP : ¬ SdP a c ys) :
    Calls Try.prog 18 #[.int .i64 a, .int .i64 c, .slice p n cap] w fun e w' => e = .returned (.tuple #[.slice none 0 0, .bool false]) ∧ w = w' := by
  obtain ⟨b1, e1⟩ : ∃ b1, decide (0 ≤ a ∧ a ≤ 65535) = b1 := ⟨_, rfl⟩
  obtain ⟨b2, e2⟩ : ∃ b1, decide (0 ≤ c ∧ c ≤ 65535) = b1 := ⟨_, rfl⟩
  obtain ⟨b3, e3⟩ : ∃ b1, decide ((1 : Int) ≤ (n : Int) ∧ (n : Int) ≤ 64) = b1 := ⟨_, rfl⟩
  have H1 : Hid (∀ W : World, Calls Try.prog 64 #[.int .i64 a] W fun e w' => e = .returned (.bool b1) ∧ W = w') := fun W => l08Word_b _ _ W e1
  have H2 : Hid (∀ W : World, Calls Try.prog 64 #[.int .i64 c] W fun e w' => e = .returned (.bool b2) ∧ W = w') := fun W => l08Word_b _ _ W e2
  have H3 : Hid (∀ W : World, Calls Try.prog 66 #[.int .i64 n, .int .i64 1, .int .i64 64] W fun e w' => e = .returned (.bool b3) ∧ W = w') := fun W => l00In_b _ _ _ _ e3 W
  by_cases hall : b1 = true ∧ b2 = true ∧ b3 = true
  · obtain ⟨rfl, rfl, rfl⟩ := hall
    have k3 := of_decide_eq_true e3
    have HNO : Hid (¬ ∀ (i : Nat) (x : Int), ys[i]? = some x → 0 ≤ x ∧ x ≤ 255) := fun k => hP ⟨of_decide_eq_true e1, of_decide_eq_true e2, by omega, k⟩
    have HR := Lib.hid h
    have HN := Lib.hid hn
    clear e1 e2 e3 h hn hP k3
    go_enter Try.func18, Try.ntmps18
    go_wp2_with (first | (go_at_call 64; first | (with_reducible refine (H1.out _).mono ?_; rintro e w1 ⟨rfl, rfl⟩) | (with_reducible refine (H2.out _).mono ?_; rintro e w1 ⟨rfl, rfl⟩)) | (go_at_call 66; with_reducible refine (H3.out _).mono ?_; rintro e w1 ⟨rfl, rfl⟩))
    clear H1 H2 H3
    go_loop [8] (fun iv => ∃ k : Nat, k ≤ n ∧ iv = .int .i64 k ∧ Hid (∀ i x, i < k → ys[i]? = some x → 0 ≤ x ∧ x ≤ 255)) (fun iv => n - (intOf iv).toNat)
    case atStart => exact ⟨0, Nat.zero_le _, rfl, fun i x hi => absurd hi (by omega)⟩
    case round =>
      obtain ⟨k, hk, rfl, HK⟩ := hrel
      by_cases hlt : k < n
      · obtain ⟨y, hy⟩ : ∃ y, ys[k]? = some y := ⟨_, List.getElem?_eq_getElem (by have := HN.out; omega)⟩
        obtain ⟨g, off, rfl, hg, hc⟩ := HR.out k y hy
        by_cases hb : 0 ≤ y ∧ y ≤ 255
        · have HI : Hid (∀ W : World, Calls Try.prog 66 #[.int .i64 y, .int .i64 0, .int .i64 255] W fun e w' => e = .returned (.bool true) ∧ W = w') := fun W => l00In_yes _ _ _ _ hb.1 hb.2
          have HK2 := Lib.hid (in_fst HK.out hy hb)
          clear hb hy HK
          go_wp2_with (go_at_call 66; with_reducible refine (HI.out _).mono ?_; rintro e w1 ⟨rfl, rfl⟩)
          go_round
          case rel => exact ⟨k + 1, by omega, by go_num, HK2⟩
          case measure => first | (simp [intOf]; done) | (simp [intOf]; omega)
        · have HI : Hid (∀ W : World, Calls Try.prog 66 #[.int .i64 y, .int .i64 0, .int .i64 255] W fun e w' => e = .returned (.bool false) ∧ W = w') := fun W => l00In_no _ _ _ _ hb
          clear hb hy HK
          go_wp2_with (go_at_call 66; with_reducible refine (HI.out _).mono ?_; rintro e w1 ⟨rfl, rfl⟩)
          go_ret2
          exact ⟨rfl, rfl⟩
      · obtain rfl : k = n := by omega
        exact absurd (fun i x hx => HK.out i x (by have := (List.getElem?_eq_some_iff.1 hx).1; have := HN.out; omega) hx) HNO.out
  · have HC : b1 = false ∨ (b1 = true ∧ b2 = false) ∨ (b1 = true ∧ b2 = true ∧ b3 = false) := by
      revert hall
      cases b1 <;> cases b2 <;> cases b3 <;> simp
    clear e1 e2 e3 h hn hP hall
    rcases HC with rfl | ⟨rfl, rfl⟩ | ⟨rfl, rfl, rfl⟩
    all_goals
      go_enter Try.func18, Try.ntmps18
      go_wp2_with (first | (go_at_call 64; first | (with_reducible refine (H1.out _).mono ?_; rintro e w1 ⟨rfl, rfl⟩) | (with_reducible refine (H2.out _).mono ?_; rintro e w1 ⟨rfl, rfl⟩)) | (go_at_call 66; with_reducible refine (H3.out _).mono ?_; rintro e w1 ⟨rfl, rfl⟩))
      go_ret2
      exact ⟨rfl, rfl⟩
set_option maxRecDepth 10000 in
theorem specSeeds_yes (a c : Nat) (p : Option Addr) (N cap : Nat) (ys : List Int) (w : World) (h : RO w.heap.size w p ys) (hn : ys.length = N) (hl : 1 ≤ N) (hl2 : N ≤ 64) (ha : a ≤ 65535) (hc : c ≤ 65535) (hy : ∀ (i : Nat) (x : Int), ys[i]? = some x → 0 ≤ x ∧ x ≤ 255) (S : Nat) (hS : ys[0]? = some (S : Int)) :
    Calls Try.prog 18 #[.int .i64 a, .int .i64 c, .slice p N cap] w (ListRet w (sds a c ys S 256) true) := by
  obtain ⟨i0, hi, hz0, hz1, hz2⟩ := info_parts Try.info2
  have hS1 := hy 0 _ hS
  have hS2 : S < 256 := by omega
  have H1 : Hid (∀ W : World, Calls Try.prog 64 #[.int .i64 a] W fun e w' => e = .returned (.bool true) ∧ W = w') := fun W => l08Word_b _ _ W (decide_eq_true (by omega))
  have H2 : Hid (∀ W : World, Calls Try.prog 64 #[.int .i64 c] W fun e w' => e = .returned (.bool true) ∧ W = w') := fun W => l08Word_b _ _ W (decide_eq_true (by omega))
  have H3 : Hid (∀ W : World, Calls Try.prog 66 #[.int .i64 N, .int .i64 1, .int .i64 64] W fun e w' => e = .returned (.bool true) ∧ W = w') := fun W => l00In_yes _ _ _ W (by omega) (by omega)
  obtain ⟨g0, off, rfl, hg0, hc0⟩ := h 0 _ hS
  rw [Nat.add_zero] at hc0
  have HP : Hid (∀ x : Nat, x ≤ 65535 → ∃ q : Nat, a * x = q ∧ q ≤ 4294836225) := fun x hx => ⟨_, rfl, by have := Nat.mul_le_mul ha hx; omega⟩
  have HR := Lib.hid h
  have HN := Lib.hid hn
  have HY := Lib.hid hy
  clear h hn hy hS hS1 ha
  have R0 : Hid (Rw w.heap.size w.heap.size 0 0 (sds a c ys S 0) (w.alloc (.cells #[] 2))) := Rw.empty w
  have B0 : Hid (Below w.heap.size w (w.alloc (.cells #[] 2))) := (Below.refl _ _).alloc (Nat.le_refl _) _
  go_enter Try.func18, Try.ntmps18
  go_wp2_with (first | (go_at_call 64; first | (with_reducible refine (H1.out _).mono ?_; rintro e w1 ⟨rfl, rfl⟩) | (with_reducible refine (H2.out _).mono ?_; rintro e w1 ⟨rfl, rfl⟩)) | (go_at_call 66; with_reducible refine (H3.out _).mono ?_; rintro e w1 ⟨rfl, rfl⟩))
  clear H1 H2 H3
  go_loopw [8] (fun iv wr => ∃ k : Nat, k ≤ N ∧ iv = .int .i64 k ∧ w = wr) (fun iv _ => N - (intOf iv).toNat)
  case atStart => exact ⟨0, Nat.zero_le _, rfl, rfl⟩
  case round =>
    obtain ⟨k, hk, rfl, rfl⟩ := hrel
    by_cases hlt : k < N
    · obtain ⟨y, hy⟩ : ∃ y, ys[k]? = some y := ⟨_, List.getElem?_eq_getElem (by have := HN.out; omega)⟩
      obtain ⟨g4, off4, e4, hg, hc2⟩ := HR.out k y hy
      cases e4
      have hb := HY.out k y hy
      have HI : Hid (∀ W : World, Calls Try.prog 66 #[.int .i64 y, .int .i64 0, .int .i64 255] W fun e w' => e = .returned (.bool true) ∧ W = w') := fun W => l00In_yes _ _ _ _ hb.1 hb.2
      clear hb hy R0 B0
      go_wp2_with (go_at_call 66; with_reducible refine (HI.out _).mono ?_; rintro e w1 ⟨rfl, rfl⟩)
      go_roundw
      case rel => exact ⟨k + 1, by omega, by go_num, by first | trivial | rfl⟩
      case measure => first | (simp [intOf]; done) | (simp [intOf]; omega)
    · obtain rfl : k = N := by omega
      go_wp2
      go_loopw [9, 10] (fun sv iv wr => ∃ q g2 len cap2 : Nat, q ≤ 256 ∧ len = (sds a c ys S q).length ∧ sv = .slice (some ⟨g2, 0, none⟩) len cap2 ∧ iv = .int .i64 q ∧ Hid (Rw w.heap.size g2 len cap2 (sds a c ys S q) wr) ∧ Hid (Below w.heap.size w wr)) (fun _ iv _ => 256 - (intOf iv).toNat)
      case atStart => exact ⟨0, _, _, _, by omega, rfl, rfl, rfl, R0, B0⟩
      case round =>
        obtain ⟨q, g2, len, cap2, hq, hlen, rfl, rfl, HS, HB⟩ := hrel
        have HL := Lib.hid hlen
        clear R0 B0 hlen hlt
        by_cases hq2 : q < 256
        · have hqI : (q : Int) < 256 := by omega
          have hX : 256 * S + q < 65536 := by omega
          have hc1 := (HB.out.cell (p := ⟨g0, off, none⟩) hg0).trans hc0
          have hl256 : len ≤ 256 := by rw [HL.out]; have := sds_length a c ys S q; omega
          obtain ⟨X, hXX⟩ : ∃ X, 256 * S + q = X := ⟨_, rfl⟩
          have ho : (256 : Int) * (S : Int) + (q : Int) = (X : Int) := by omega
          rw [hXX] at hX
          have HXX := Lib.hid hXX
          obtain ⟨W0, hW0⟩ : ∃ W0, W0 = wr := ⟨_, rfl⟩
          rw [← hW0] at HS HB hc1 ⊢
          clear hXX hW0
          go_wp2
          clear ho hc1
          go_loopw [12, 13, 14] (fun xv fv jv wr => ∃ (j x : Nat) (f : Bool), j ≤ k ∧ xv = .int .i64 x ∧ fv = .bool f ∧ jv = .int .i64 j ∧ x ≤ 65535 ∧ Hid (x = itc 65536 a c X j) ∧ Hid (fitS a c X ys j = f) ∧ wr = W0) (fun _ _ jv _ => k - (intOf jv).toNat)
          case atStart => exact ⟨0, X, true, by omega, rfl, rfl, rfl, by omega, rfl, rfl, rfl⟩
          case round =>
            obtain ⟨j, x, f, hj, rfl, rfl, rfl, hx, HI, HF, rfl⟩ := hrel
            by_cases hjN : j < k
            · have hjI : (j : Int) < (k : Int) := by omega
              obtain ⟨y, hy⟩ : ∃ y, ys[j]? = some y := ⟨_, List.getElem?_eq_getElem (by have := HN.out; omega)⟩
              obtain ⟨g4, off4, e4, hg4, hc4⟩ := HR.out j y hy
              cases e4
              have cy := (HB.out.cell (p := ⟨g0, off + j, none⟩) hg4).trans hc4
              have hyd : ys.getD j 0 = y := by rw [List.getD_eq_getElem?_getD, hy]; rfl
              obtain ⟨m, hm, hm2⟩ := HP.out x hx
              have E : (a : Int) * (x : Int) = (m : Int) := by rw [← hm]; simp
              have HV : Hid (((m : Int) + c) % 65536 = (nx 65536 a c x : Nat)) := by unfold Hid nx; rw [hm]; simp
              have HI2 : Hid (nx 65536 a c x = itc 65536 a c X (j + 1)) := by unfold Hid; rw [itc_succ, ← HI.out]
              have hx2 : nx 65536 a c x ≤ 65535 := by have := nx_lt (m := 65536) (by omega) a c x; omega
              generalize nx 65536 a c x = z at HV HI2 hx2
              obtain ⟨f2, hf2⟩ : ∃ f2, decide ((x : Int) / 256 = y) = f2 := ⟨_, rfl⟩
              have t1 : (((x : Int) / 256) == y) = f2 := by rw [← hf2]; rfl
              have HF2 : Hid (fitS a c X ys (j + 1) = (f && f2)) := by
                unfold Hid
                rw [fitS, HF.out, ← HI.out, hyd, ← hf2]
                congr 1
              clear hc4 hy hm hf2 HF HI hyd
              cases f
              · go_wp2
                go_roundw
                case rel => exact ⟨j + 1, z, false, by omega, by rw [HV.out], rfl, by go_num, hx2, HI2, HF2, by first | trivial | rfl⟩
                case measure => first | (simp [intOf]; done) | (simp [intOf]; omega)
              · go_wp2
                go_roundw
                case rel => exact ⟨j + 1, z, f2, by omega, by rw [HV.out], by simp, by go_num, hx2, HI2, by simpa using HF2, by first | trivial | rfl⟩
                case measure => first | (simp [intOf]; done) | (simp [intOf]; omega)
            · obtain rfl : j = k := by omega
              cases f
              · have HNO : Hid (sds a c ys S (q + 1) = sds a c ys S q) := by
                  unfold Hid
                  rw [sds, HXX.out, HN.out, HF.out]
                  rfl
                have HS5 : Hid (Rw w.heap.size g2 len cap2 (sds a c ys S (q + 1)) wr) := by unfold Hid; rw [HNO.out]; exact HS.out
                have HL5 : Hid (len = (sds a c ys S (q + 1)).length) := by unfold Hid; rw [HNO.out]; exact HL.out
                clear HS HF HI
                go_wp2
                go_roundw
                case rel => exact ⟨q + 1, g2, len, cap2, by omega, HL5.out, rfl, by go_num, HS5, HB⟩
                case measure => first | (simp [intOf]; done) | (simp [intOf]; omega)
              · have HE : Hid (sds a c ys S (q + 1) = sds a c ys S q ++ [(X : Int)]) := by
                  unfold Hid
                  rw [sds, HXX.out, HN.out, HF.out]
                  rfl
                have hzz := HB.out.size
                go_wp2_with (at_builtin; refine wpList_append_own_at _ rfl _ _ 31 rfl w.heap.size 2 i0 (.int .i64 0) 1 8 Try.underlying31 hi hz0 hz1 hz2 rfl (by decide) _ _ _ rfl (World.ownsRow.alloc (HS.out) _) ⟨wr.heap.size, 0, none⟩ 1 1 [.int .i64 X] rfl rfl (cell_one_new _ _ _) (by intro u hu; simp at hu; subst hu; rfl) (by unfold maxLen; omega) (by omega) (by first | (simp; done) | (simp; omega)) ?_; intro v1 w1 hown1 hgrow1 hnil1 hat1)
                obtain ⟨g1, cap1, rfl, hr1, hg1, hgr⟩ := Rw.app HS.out hown1 hgrow1 hat1
                have HB1 : Hid (Below w.heap.size w w1) := HB.out.grown hgr hzz (fun q e => by cases e; exact HS.out.le)
                have HS5 : Hid (Rw w.heap.size g1 (len + 1) cap1 (sds a c ys S (q + 1)) w1) := by
                  unfold Hid
                  rw [HE.out]
                  exact hr1
                have HL5 : Hid (len + 1 = (sds a c ys S (q + 1)).length) := by unfold Hid; rw [HE.out, List.length_append, ← HL.out]; rfl
                clear hown1 hgrow1 hnil1 hat1 hr1 hg1 hgr HS HB HF HI
                go_wp2
                go_roundw
                case rel => exact ⟨q + 1, g1, len + 1, cap1, by omega, HL5.out, by first | rfl | go_num, by go_num, HS5, HB1⟩
                case measure => first | (simp [intOf]; done) | (simp [intOf]; omega)
        · obtain rfl : q = 256 := by omega
          go_wp2
          go_ret2
          exact ⟨_, rfl, HS.out.sl, HB.out⟩
theorem seeds_0 {ys : List Int} {a c : Int} (h : SdP a c ys) : ∃ S : Nat, ys[0]? = some (S : Int) := by
  obtain ⟨y, hy⟩ : ∃ y, ys[0]? = some y := ⟨_, List.getElem?_eq_getElem (by have := h.2.2.1.1; omega)⟩
  have := h.2.2.2 0 y hy
  exact ⟨y.toNat, by rw [hy]; congr 1; omega⟩
theorem lawSeeds (a c : Int) (p : Option Addr) (n cap : Nat) (zs : List Int) (w : World) (h : RowIn .i64 w p n zs) :
    Calls Try.prog 5 #[.int .i64 a, .int .i64 c, .slice p n cap] w fun e w' => e = .returned (.bool true) ∧ Below w.heap.size w w' :=
  lawSeedsBehind_any a c p n cap zs w h fun ys hn hl hr => by
    by_cases hP : SdP a c ys
    · obtain ⟨S, hS⟩ := seeds_0 hP
      obtain ⟨A, rfl⟩ := Int.eq_ofNat_of_zero_le hP.1.1
      obtain ⟨C, rfl⟩ := Int.eq_ofNat_of_zero_le hP.2.1.1
      have h1 := hP.1.2
      have h2 := hP.2.1.2
      have h3 := hP.2.2.1
      exact lawSeedsBehind_core A C p n cap ys (sds A C ys S 256) true w hr hn hl (by have := sds_length A C ys S 256; omega)
        (fun W b c' hb _ => specSeeds_yes A C b n c' ys W hb hn (by omega) (by omega) (by omega) (by omega) hP.2.2.2 S hS)
        (fun W b c' hb _ => seeds_yes A C b n c' ys W hb hn (by omega) (by omega) (by omega) (by omega) hP.2.2.2 S hS)
    · exact lawSeedsBehind_core a c p n cap ys [] false w hr hn hl (by simp)
        (fun W b c' hb _ => (specSeeds_no a c b n c' ys W hb hn hl hP).mono fun e w' ⟨he, hw⟩ => ⟨_, he, .inl ⟨rfl, rfl⟩, by rw [← hw]; exact Below.refl _ _⟩)
        (fun W b c' hb _ => (seeds_no a c b n c' ys W hb hn hl hP).mono fun e w' ⟨he, hw⟩ => ⟨_, he, .inl ⟨rfl, rfl⟩, by rw [← hw]; exact Below.refl _ _⟩)
end Go.Proofs.Ytciofobedgmbjab
