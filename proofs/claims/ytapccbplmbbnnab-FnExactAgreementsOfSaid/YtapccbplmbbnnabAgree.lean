/- Agreements of bits in a circle: impl.AgreementsOf, spec.AgreementsOf, the law FnExactAgreementsOf. -/
import Derived.Test.YtapccbplmbbnnabAllWords
import Derived.Test.YtapccbplmbbnnabSlice64
import Derived.WalkSmall
namespace Go.Proofs.Ytapccbplmbbnnab
open Go.RowKit Go.PlainAid
set_option maxHeartbeats 800000

/-- the agreements of the first j bits with those k places on -/
def agr (s : ByteArray) (k : Nat) : Nat → Int
  | 0 => 0
  | j + 1 => if bt s j = bt s ((j + k) % s.size) then agr s k j + 1 else agr s k j - 1
theorem agr_in (s : ByteArray) (k : Nat) : ∀ j : Nat, -(j : Int) ≤ agr s k j ∧ agr s k j ≤ j := by
  intro j
  induction j with
  | zero => simp [agr]
  | succ j ih => unfold agr; split <;> omega
def agrL (s : ByteArray) : Nat → List Int
  | 0 => []
  | k + 1 => agrL s k ++ [agr s k s.size]
theorem agrL_length (s : ByteArray) : ∀ k, (agrL s k).length = k := by
  intro k
  induction k with
  | zero => rfl
  | succ k ih => simp [agrL, ih]
theorem pad_zero (l : List Int) (n : Nat) (h : l.length < n) : pad (l ++ [0]) n = pad l n := by
  unfold pad
  obtain ⟨m, hm⟩ : ∃ m, n - l.length = m + 1 := ⟨n - l.length - 1, by omega⟩
  have hm2 : n - (l ++ [0]).length = m := by simp; omega
  rw [hm, hm2, List.append_assoc]
  simp [List.replicate_succ]
theorem pad_at (l : List Int) (x : Int) (n : Nat) (h : l.length < n) : ((pad (l ++ [x]) n).map (Value.int .i64))[l.length]? = some (.int .i64 x) := by
  unfold pad
  simp
theorem pad_put (l : List Int) (x y : Int) (n : Nat) : ((pad (l ++ [x]) n).map (Value.int .i64)).set l.length (.int .i64 y) = (pad (l ++ [y]) n).map (Value.int .i64) := by
  unfold pad
  simp
/-- the row under way -/
theorem agr_at {w : World} {base : Nat} {e : TypeId} {g n cap k : Nat} {l : List Int} {x : Int} (h : w.ownsRow base e 1 (.slice (some ⟨g, 0, none⟩) n cap) n ((pad (l ++ [x]) n).map (Value.int .i64))) (hl : l.length = k) (hk : k < n) :
    w.cell? ⟨g, k, none⟩ = some (.int .i64 x) ∧ w.frozen? ⟨g, k, none⟩ = false := by
  subst hl
  refine ⟨?_, h.frozenAt _⟩
  rw [h.cellAt l.length (by omega)]
  exact pad_at l x n hk
theorem agr_put {w : World} {base : Nat} {e : TypeId} {g n cap k : Nat} {l : List Int} {x : Int} (h : w.ownsRow base e 1 (.slice (some ⟨g, 0, none⟩) n cap) n ((pad (l ++ [x]) n).map (Value.int .i64))) (hl : l.length = k) (y : Int) :
    (w.setCell ⟨g, k, none⟩ (.int .i64 y)).ownsRow base e 1 (.slice (some ⟨g, 0, none⟩) n cap) n ((pad (l ++ [y]) n).map (Value.int .i64)) := by
  subst hl
  rw [← pad_put l x y n]
  exact (h.stored l.length (.int .i64 y)).1
theorem own_drewU {w : World} {B : Nat} {e : TypeId} {size n : Nat} {v : Value} {xs : List Value} (h : w.ownsRow B e size v n xs) (m : Nat) : (w.drewN m).ownsRow B e size v n xs := h
theorem toList_neU {s : ByteArray} (h : 0 < s.size) : ¬ s.toList = [] := by
  intro x
  rw [ByteArray.toList_eq] at x
  have : s.data.size = 0 := by rw [← Array.length_toList, x]; rfl
  have h2 : s.data.size = s.size := rfl
  omega
theorem toList_nilU {s : ByteArray} (h : s.size = 0) : s.toList = [] := by
  rw [ByteArray.toList_eq]
  have h2 : s.data.size = s.size := rfl
  exact List.eq_nil_of_length_eq_zero (by rw [Array.length_toList]; omega)

theorem agree_yes (s : ByteArray) (w : World) (hs : BitsP s) (h0 : 0 < s.size) :
    Calls Try.prog 53 #[.string s] w fun e w' => ∃ v, e = .returned (.tuple #[v, .bool true]) ∧ w'.ownsRow w.heap.size 2 1 v (agrL s s.size).length ((agrL s s.size).map (Value.int .i64)) ∧ Below w.heap.size w w' := by
  obtain ⟨i0, hi, hz0, hz1, hz2⟩ := info_parts Try.info2
  have h1 := hs.len
  have hz := twice_size s
  have HU : Hid (∀ w : World, Calls Try.prog 87 #[.string s, .int .i64 (2 * (s.size : Int))] w fun e w' => e = .returned (.string (twice s)) ∧ Below w.heap.size w w') := fun w => by
    have := unrolled_any s (2 * s.size) w h0 h1 rfl
    rwa [show ((2 * s.size : Nat) : Int) = 2 * (s.size : Int) by omega] at this
  have hne := toList_neU h0
  have hne2 : s.toList.isEmpty = false := by simpa using hne
  have hne3 : (s.toList == []) = false := by simpa using hne
  have HB := Lib.hid hs
  have HT : Hid (∀ k, (hk : k < (twice s).size) → (((twice s)[k]'hk).toNat : Int) = bt s (k % s.size)) := fun k hk => by rw [get_bt _ k hk, twice_bt h0 (by omega)]
  clear hs
  go_enter Try.func53, Try.ntmps53
  go_wp2_with fail
  refine (isBits_yes _ _ HB.out).mono ?_
  rintro e w1 ⟨rfl, hb1⟩
  go_wp2_with fail
  refine (HU.out _).mono ?_
  rintro e w2 ⟨rfl, hb2⟩
  have hbel2 : Below w.heap.size w w2 := hb1.trans (hb2.mono hb1.size)
  clear hb1 hb2
  go_wp2_with (at_make; refine wpList_make_full _ rfl _ _ 29 rfl w.heap.size 2 i0 _ 1 Try.underlying29 hi hz0 hz1 _ _ _ _ s.size rfl rfl rfl rfl (by rw [hz2]; omega) (by unfold maxLen; omega) hbel2.size ?_; intro w3 hown hgrow)
  have hown3 : w3.ownsRow w.heap.size 2 1 (.slice (some ⟨w2.heap.size, 0, none⟩) s.size s.size) s.size ((pad (agrL s 0) s.size).map (Value.int .i64)) := by rw [pad_made] at hown; exact hown
  have hbel3 : Below w.heap.size w w3 := hbel2.grown hgrow hbel2.size (by simp)
  have hzz := hbel2.size
  clear hown hgrow hbel2
  go_loopw [6, 7, 25, 30] (fun _ _ kv _ wr => ∃ k : Nat, k ≤ s.size ∧ kv = .int .i64 k ∧ wr.ownsRow w.heap.size 2 1 (.slice (some ⟨w2.heap.size, 0, none⟩) s.size s.size) s.size ((pad (agrL s k) s.size).map (Value.int .i64)) ∧ Below w.heap.size w wr) (fun _ _ kv _ _ => s.size - (intOf kv).toNat)
  case atStart => exact ⟨0, Nat.zero_le _, rfl, hown3, hbel3⟩
  case round =>
    obtain ⟨k, hk, rfl, hown, hbel⟩ := hrel
    clear hown3 hbel3
    by_cases hlt : k < s.size
    · have hownI : wr.ownsRow w.heap.size 2 1 (.slice (some ⟨w2.heap.size, 0, none⟩) s.size s.size) s.size ((pad (agrL s k ++ [agr s k 0]) s.size).map (Value.int .i64)) := by
        rw [show agr s k 0 = 0 from rfl, pad_zero _ _ (by rw [agrL_length]; exact hlt)]
        exact hown
      have HL : Hid (agrL s (k + 1) = agrL s k ++ [agr s k s.size]) := rfl
      clear hown
      obtain ⟨wo, hwo⟩ : ∃ x, wr = x := ⟨_, rfl⟩
      rw [hwo] at hownI hbel ⊢
      clear hwo
      go_wp2
      go_loopw [7, 30] (fun _ jv wi => ∃ j : Nat, j ≤ s.size ∧ jv = .int .i64 j ∧ wi.ownsRow w.heap.size 2 1 (.slice (some ⟨w2.heap.size, 0, none⟩) s.size s.size) s.size ((pad (agrL s k ++ [agr s k j]) s.size).map (Value.int .i64)) ∧ Below w.heap.size w wi) (fun _ jv _ => s.size - (intOf jv).toNat)
      case atStart => exact ⟨0, Nat.zero_le _, rfl, hownI, hbel⟩
      case round =>
        obtain ⟨j, hj, rfl, howni, hbeli⟩ := hrel
        clear hownI hbel
        by_cases hjt : j < s.size
        · have h2 : j + k < (twice s).size := by omega
          have hx := get_bt s j hjt
          have hy := HT.out (j + k) h2
          have hin := agr_in s k j
          obtain ⟨hc, hf⟩ := agr_at howni (agrL_length s k) hlt
          have q1 : IntKind.i64.wrap ((j : Int) + (k : Int)) = (j : Int) + (k : Int) := IntWalk.i64_in _ (by omega)
          have q2 : (0 : Int) ≤ (j : Int) + (k : Int) := by omega
          have q3 : ((j : Int) + (k : Int)).toNat = j + k := by omega
          have q5 : (j : Int) + (k : Int) < ((twice s).size : Int) := by omega
          have q6 : (j : Int) + (k : Int) < 2 * (s.size : Int) := by omega
          have q7 : j + k < 2 * s.size := by omega
          by_cases hxy : bt s j = bt s ((j + k) % s.size)
          · have hcmp : (((s[j]'hjt).toNat : Int) == (((twice s)[j + k]'h2).toNat : Int)) = true := by rw [hx, hy, hxy]; simp
            have HA : Hid (agr s k (j + 1) = agr s k j + 1) := by unfold Hid; rw [agr, if_pos hxy]
            obtain ⟨x, hxa⟩ : ∃ x, agr s k j = x := ⟨_, rfl⟩
            rw [hxa] at hin hc HA howni
            clear hx hy hxy hxa
            go_wp2
            go_quiet (fail)
            go_wp2
            go_roundw
            case rel => exact ⟨j + 1, by omega, by go_num, by rw [HA.out]; exact agr_put (own_drewU howni nq) (agrL_length s k) _, (below_drewN hbeli nq).setCell (by simp; omega) _⟩
            case measure => simp [intOf]; omega
          · have hcmp : (((s[j]'hjt).toNat : Int) == (((twice s)[j + k]'h2).toNat : Int)) = false := by rw [hx, hy, beq_eq_false_iff_ne]; exact hxy
            have HA : Hid (agr s k (j + 1) = agr s k j - 1) := by unfold Hid; rw [agr, if_neg hxy]
            obtain ⟨x, hxa⟩ : ∃ x, agr s k j = x := ⟨_, rfl⟩
            rw [hxa] at hin hc HA howni
            clear hx hy hxy hxa
            go_wp2
            go_quiet (fail)
            go_wp2
            go_roundw
            case rel => exact ⟨j + 1, by omega, by go_num, by rw [HA.out]; exact agr_put (own_drewU howni nq) (agrL_length s k) _, (below_drewN hbeli nq).setCell (by simp; omega) _⟩
            case measure => simp [intOf]; omega
        · obtain rfl : j = s.size := by omega
          go_wp2
          go_roundw
          case rel => exact ⟨k + 1, by omega, by go_num, by rw [HL.out]; exact howni, hbeli⟩
          case measure => simp [intOf]; omega
    · obtain rfl : k = s.size := by omega
      have hp : Hid (pad (agrL s s.size) s.size = agrL s s.size) := by
        unfold Hid
        have := pad_full (agrL s s.size)
        rwa [agrL_length] at this
      rw [hp.out] at hown
      go_wp2
      go_ret2
      exact ⟨_, rfl, by rw [agrL_length]; exact hown, hbel⟩
theorem agree_no (s : ByteArray) (w : World) (hm : s.size ≤ maxLen) (h : ¬ (BitsP s ∧ 0 < s.size)) :
    Calls Try.prog 53 #[.string s] w fun e w' => e = .returned (.tuple #[.slice none 0 0, .bool false]) ∧ Below w.heap.size w w' := by
  by_cases h0 : 0 < s.size
  · have hne := toList_neU h0
    have hne2 : s.toList.isEmpty = false := by simpa using hne
    have hne3 : (s.toList == []) = false := by simpa using hne
    have HB : Hid (¬ BitsP s) := fun x => h ⟨x, h0⟩
    clear h
    go_enter Try.func53, Try.ntmps53
    go_wp2_with fail
    refine (isBits_no _ _ hm HB.out).mono ?_
    rintro e w2 ⟨rfl, hb2⟩
    go_wp2
    go_ret2
    exact ⟨rfl, hb2⟩
  · have hne := toList_nilU (show s.size = 0 by omega)
    have hne2 : s.toList.isEmpty = true := by rw [hne]; rfl
    have hne3 : (s.toList == []) = true := by rw [hne]; rfl
    clear h
    go_enter Try.func53, Try.ntmps53
    go_wp2
    go_ret2
    exact ⟨rfl, Below.refl _ _⟩
theorem specAgree_yes (s : ByteArray) (w : World) (hs : BitsP s) (h0 : 0 < s.size) :
    Calls Try.prog 52 #[.string s] w fun e w' => ∃ v, e = .returned (.tuple #[v, .bool true]) ∧ w'.ownsRow w.heap.size 2 1 v (agrL s s.size).length ((agrL s s.size).map (Value.int .i64)) ∧ Below w.heap.size w w' := by
  obtain ⟨i0, hi, hz0, hz1, hz2⟩ := info_parts Try.info2
  have h1 := hs.len
  have HB := Lib.hid hs
  have hne : ((s.size : Int) == 0) = false := by rw [beq_eq_false_iff_ne]; omega
  have HO := Lib.hid (ownsRow_empty w 2 1)
  clear hs
  go_enter Try.func52, Try.ntmps52
  go_wp2_with (go_at_call 86; refine (l01Bits_yes s _ HB.out).mono ?_; rintro e w3 ⟨rfl, rfl⟩)
  go_loopw [4, 5, 6, 7] (fun v kv _ _ wr => ∃ k : Nat, k ≤ s.size ∧ kv = .int .i64 k ∧ wr.ownsRow w.heap.size 2 1 v k ((agrL s k).map (Value.int .i64)) ∧ Below w.heap.size w wr) (fun _ kv _ _ _ => s.size - (intOf kv).toNat)
  case atStart => exact ⟨0, Nat.zero_le _, rfl, HO.out, (Below.refl _ _).alloc (Nat.le_refl _) _⟩
  case round =>
    obtain ⟨k, hk, rfl, hown, hbel⟩ := hrel
    by_cases hlt : k < s.size
    · have HL : Hid (agrL s (k + 1) = agrL s k ++ [agr s k s.size]) := rfl
      obtain ⟨wo, hwo⟩ : ∃ x, wr = x := ⟨_, rfl⟩
      rw [hwo] at hown hbel ⊢
      clear hwo
      have HOo := Lib.hid (And.intro hown hbel)
      clear hown hbel
      go_wp2
      go_loopw [6, 7] (fun x jv wi => ∃ j : Nat, j ≤ s.size ∧ jv = .int .i64 j ∧ x = .int .i64 (agr s k j) ∧ ∃ m, wi = wo.drewN m) (fun _ jv _ => s.size - (intOf jv).toNat)
      case atStart => exact ⟨0, Nat.zero_le _, rfl, rfl, 0, rfl⟩
      case round =>
        obtain ⟨j, hj, rfl, rfl, m, rfl⟩ := hrel
        by_cases hjt : j < s.size
        · obtain ⟨q, hq, hm, hqe⟩ : ∃ q, ∃ _ : q < s.size, ((j : Int) + (k : Int)).tmod (s.size : Int) = (q : Int) ∧ (j + k) % s.size = q := by
            refine ⟨(j + k) % s.size, Nat.mod_lt _ h0, ?_, rfl⟩
            rw [show (j : Int) + (k : Int) = ((j + k : Nat) : Int) by omega, Int.tmod_eq_emod_of_nonneg (by omega)]
            exact (Int.natCast_emod _ _).symm
          have hx := get_bt s j hjt
          have hy := get_bt s q hq
          have hin := agr_in s k j
          have q1 : IntKind.i64.wrap ((j : Int) + (k : Int)) = (j : Int) + (k : Int) := IntWalk.i64_in _ (by omega)
          have q2 : (0 : Int) ≤ (q : Int) := by omega
          have q4 : ¬ (s.size : Int) = 0 := by omega
          have q5 : (q : Int) < (s.size : Int) := by omega
          have q6 : IntKind.i64.wrap (q : Int) = (q : Int) := IntWalk.i64_in _ (by omega)
          by_cases hxy : bt s j = bt s q
          · have hcmp : (((s[j]'hjt).toNat : Int) == ((s[q]'hq).toNat : Int)) = true := by rw [hx, hy, hxy]; simp
            have HA : Hid (agr s k (j + 1) = agr s k j + 1) := by unfold Hid; rw [agr, hqe, if_pos hxy]
            obtain ⟨x, hxa⟩ : ∃ x, agr s k j = x := ⟨_, rfl⟩
            rw [hxa] at hin HA ⊢
            clear hx hy hxy hxa hqe
            go_wp2
            go_quiet (fail)
            go_wp2
            go_roundw
            case rel => exact ⟨j + 1, by omega, by go_num, by rw [HA.out], _, rfl⟩
            case measure => simp [intOf]; omega
          · have hcmp : (((s[j]'hjt).toNat : Int) == ((s[q]'hq).toNat : Int)) = false := by rw [hx, hy, beq_eq_false_iff_ne]; exact hxy
            have HA : Hid (agr s k (j + 1) = agr s k j - 1) := by unfold Hid; rw [agr, hqe, if_neg hxy]
            obtain ⟨x, hxa⟩ : ∃ x, agr s k j = x := ⟨_, rfl⟩
            rw [hxa] at hin HA ⊢
            clear hx hy hxy hxa hqe
            go_wp2
            go_quiet (fail)
            go_wp2
            go_roundw
            case rel => exact ⟨j + 1, by omega, by go_num, by rw [HA.out], _, rfl⟩
            case measure => simp [intOf]; omega
        · obtain rfl : j = s.size := by omega
          have hown := own_drewU HOo.out.1 m
          have hbel := below_drewN HOo.out.2 m
          obtain ⟨wx, hwx⟩ : ∃ x, wo.drewN m = x := ⟨_, rfl⟩
          rw [hwx] at hown hbel ⊢
          clear hwx HOo
          obtain ⟨x, hxa⟩ : ∃ x, agr s k s.size = x := ⟨_, rfl⟩
          rw [hxa] at HL ⊢
          clear hxa
          go_wp2_with (at_builtin; refine wpList_append_own _ rfl _ _ 29 rfl w.heap.size 2 i0 (.int .i64 0) 1 8 Try.underlying29 hi hz0 hz1 hz2 rfl (by decide) _ _ _ rfl (hown.alloc _) ⟨wx.heap.size, 0, none⟩ 1 1 [.int .i64 x] rfl rfl (cell_one_new _ _ _) (by intro u hu; simp at hu; subst hu; rfl) (by unfold maxLen; omega) (by omega) (by have := hbel.size; simp; omega) ?_; intro v1 w1 hown1 hgrow _)
          have hb1 : Below w.heap.size w w1 := (hbel.alloc hbel.size _).grown hgrow (by have := hbel.size; simp; omega) (own_block hown)
          have HO1 : Hid (w1.ownsRow w.heap.size 2 1 v1 (k + 1) ((agrL s (k + 1)).map (Value.int .i64))) := by
            unfold Hid
            rw [HL.out]
            simpa using hown1
          clear hown1 hgrow hown hbel
          go_wp2
          go_roundw
          case rel => exact ⟨k + 1, by omega, by go_num, HO1.out, hb1⟩
          case measure => simp [intOf]; omega
    · obtain rfl : k = s.size := by omega
      go_wp2
      go_ret2
      exact ⟨_, rfl, by rw [agrL_length]; exact hown, hbel⟩
theorem specAgree_no (s : ByteArray) (w : World) (hm : s.size ≤ maxLen) (h : ¬ (BitsP s ∧ 0 < s.size)) :
    Calls Try.prog 52 #[.string s] w fun e w' => e = .returned (.tuple #[.slice none 0 0, .bool false]) ∧ w = w' := by
  by_cases hs : BitsP s
  · have HB := Lib.hid hs
    have hz : s.size = 0 := Nat.eq_zero_of_not_pos fun x => h ⟨hs, x⟩
    clear h hs
    go_enter Try.func52, Try.ntmps52
    go_wp2_with (go_at_call 86; refine (l01Bits_yes s _ HB.out).mono ?_; rintro e w3 ⟨rfl, rfl⟩)
    go_ret2
    exact ⟨rfl, rfl⟩
  · have HB := Lib.hid hs
    clear h hs
    go_enter Try.func52, Try.ntmps52
    go_wp2_with (go_at_call 86; refine (l01Bits_no s _ hm HB.out).mono ?_; rintro e w3 ⟨rfl, rfl⟩)
    go_ret2
    exact ⟨rfl, rfl⟩
theorem lawAgree_core (s : ByteArray) (w : World) (hl : s.size ≤ 1048576) (xs : List Int) (ok : Bool) (hn : xs.length ≤ 400) (HS : Hid (GivesList 52 #[.string s] xs ok)) (HI : Hid (GivesList 53 #[.string s] xs ok)) :
    Calls Try.prog 13 #[.string s] w fun e w' => e = .returned (.bool true) ∧ Below w.heap.size w w' := by
  have hok : (ok != ok) = false := by simp
  have hq : (((1 : Int) + (xs.length : Int)) != ((1 : Int) + (xs.length : Int))) = false := by simp
  go_enter Try.func13, Try.ntmps13
  go_wp2_with fail
  refine (HS.out _).mono ?_
  rintro e w1 ⟨a, rfl, ha, hb1⟩
  go_wp2_with fail
  refine (HI.out _).mono ?_
  rintro e w2 ⟨b, rfl, hb, hb2⟩
  have ha2 := ha.below hb2
  have hbel2 : Below w.heap.size w w2 := hb1.trans (hb2.mono hb1.size)
  have z1 := hb1.size
  have z2 := hb2.size
  clear ha hb1 hb2
  have H2 := Lib.hid (And.intro ha2 hb)
  clear ha2 hb
  go_wp2_with fail
  refine (eq64_yes _ _ xs _ _ _ _ _ H2.out.2 H2.out.1 (by omega)).mono ?_
  rintro e w3 ⟨rfl, n3, rfl⟩
  go_wp2_with fail
  refine (mark64_any _ xs _ _ 1 _ (H2.out.2.drewN n3) (by omega) (by omega) (by omega)).mono ?_
  rintro e w4 ⟨rfl, hm, hg⟩
  have K := Lib.hid (Kept.mk0 hbel2 z1 z2 H2.out.1 H2.out.2 hm hg)
  clear hm hg hbel2 z2 H2
  go_wp2_with fail
  refine (held64_any _ _ _ _ 1 _ K.out.sb (by omega) (by omega) (by omega)).mono ?_
  rintro e w4 ⟨rfl, rfl⟩
  go_wp2_with fail
  refine (HI.out _).mono ?_
  rintro e w5 ⟨c, rfl, hc, hb5⟩
  have K5 := Lib.hid (K.out.next hb5 z1)
  have HC := Lib.hid hc
  clear K hb5 hc
  go_wp2_with fail
  refine (eq64_yes _ _ xs _ _ _ _ _ HC.out K5.out.sa (by omega)).mono ?_
  rintro e w6 ⟨rfl, n6, rfl⟩
  have K6 := Lib.hid (K5.out.drewN n6)
  clear K5 HC
  go_wp2_with fail
  refine (held64_any _ _ _ _ 1 _ K6.out.sb (by omega) (by omega) (by omega)).mono ?_
  rintro e w7 ⟨rfl, rfl⟩
  go_wp2
  go_ret
  exact ⟨rfl, K6.out.bel⟩
theorem lawAgree (s : ByteArray) (w : World) (hm : s.size ≤ maxLen) :
    Calls Try.prog 13 #[.string s] w fun e w' => e = .returned (.bool true) ∧ Below w.heap.size w w' := by
  by_cases hl : s.size ≤ 1048576
  · by_cases h : BitsP s ∧ 0 < s.size
    · refine lawAgree_core s w hl (agrL s s.size) true (by rw [agrL_length]; exact h.1.len) (fun W => ?_) (fun W => ?_)
      · exact (specAgree_yes s W h.1 h.2).mono fun e w' ⟨v, he, ho, hb⟩ => ⟨v, he, SL.of_own ho, hb⟩
      · exact (agree_yes s W h.1 h.2).mono fun e w' ⟨v, he, ho, hb⟩ => ⟨v, he, SL.of_own ho, hb⟩
    · refine lawAgree_core s w hl [] false (by simp) (fun W => ?_) (fun W => ?_)
      · exact (specAgree_no s W hm h).mono fun e w' ⟨he, hw⟩ => ⟨_, he, .inl ⟨rfl, rfl⟩, by rw [← hw]; exact Below.refl _ _⟩
      · exact (agree_no s W hm h).mono fun e w' ⟨he, hb⟩ => ⟨_, he, .inl ⟨rfl, rfl⟩, hb⟩
  · unfold maxLen at hm
    go_enter Try.func13, Try.ntmps13
    go_wp2
    go_ret
    exact ⟨rfl, Below.refl _ _⟩
end Go.Proofs.Ytapccbplmbbnnab
