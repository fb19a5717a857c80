/- Numbers by a die: impl.RollDice, spec.RollDice, and the law. -/
import Derived.Test.YtamedggnkbhgeabRdr
import Derived.Test.YtamedggnkbhgeabRollMath
import Derived.Test.YtamedggnkbhgeabWidth
namespace Go.Proofs.Ytamedggnkbhgeab
open Go.RowKit Go.PlainAid
set_option maxHeartbeats 1000000

/-- how many steps are left -/
def steps (s : ByteArray) (n v : Int) (u : Nat) : Nat := 2 * (s.size - u) + (if v < n then 1 else 2)
theorem dice_read {s : ByteArray} {n v c : Int} {u f : Nat} (hv : v < n) (hu : u < s.size) : dice s n (f + 1) v c u = dice s n f (2 * v) (2 * c + (bt s u - 48)) (u + 1) := by rw [dice, if_pos hv, if_pos hu]
theorem dice_end {s : ByteArray} {n v c : Int} {u f : Nat} (hv : v < n) (hu : ¬ u < s.size) : dice s n (f + 1) v c u = (0, 0, false) := by rw [dice, if_pos hv, if_neg hu]
theorem dice_hit {s : ByteArray} {n v c : Int} {u f : Nat} (hv : ¬ v < n) (hc : c < n) : dice s n (f + 1) v c u = (c, (u : Int), true) := by rw [dice, if_neg hv, if_pos hc]
theorem dice_less {s : ByteArray} {n v c : Int} {u f : Nat} (hv : ¬ v < n) (hc : ¬ c < n) : dice s n (f + 1) v c u = dice s n f (v - n) (c - n) u := by rw [dice, if_neg hv, if_neg hc]
theorem three {x u a b : Int} {ok c : Bool} (h : (a, b, c) = (x, u, ok)) : x = a ∧ u = b ∧ ok = c := ⟨(congrArg Prod.fst h).symm, (congrArg (fun t => t.2.1) h).symm, (congrArg (fun t => t.2.2) h).symm⟩

/-- a state of a roll: v ways, the number c, u bits used -/
def DiceAt (s : ByteArray) (n x : Int) (y : Int) (ok : Bool) (v c : Int) (u : Nat) : Prop := 1 ≤ v ∧ v < 2 * n ∧ 0 ≤ c ∧ c < v ∧ u ≤ s.size ∧ ∃ f, steps s n v u ≤ f ∧ dice s n f v c u = (x, y, ok)
theorem DiceAt.read {s : ByteArray} {n x y v c : Int} {ok : Bool} {u : Nat} (h : DiceAt s n x y ok v c u) (hs : AllIn 48 49 s) (hv : v < n) (hu : u < s.size) : DiceAt s n x y ok (2 * v) (2 * c + (bt s u - 48)) (u + 1) := by
  obtain ⟨h1, h2, h3, h4, h5, f, hf, h6⟩ := h
  have hb := bit_in hs hu
  unfold steps at hf
  rw [if_pos hv] at hf
  obtain ⟨f, rfl⟩ : ∃ f', f = f' + 1 := ⟨f - 1, by omega⟩
  rw [dice_read hv hu] at h6
  refine ⟨by omega, by omega, by omega, by omega, by omega, f, ?_, h6⟩
  unfold steps
  split <;> omega
theorem DiceAt.end_ {s : ByteArray} {n x y v c : Int} {ok : Bool} {u : Nat} (h : DiceAt s n x y ok v c u) (hv : v < n) (hu : ¬ u < s.size) : x = 0 ∧ y = 0 ∧ ok = false := by
  obtain ⟨h1, h2, h3, h4, h5, f, hf, h6⟩ := h
  unfold steps at hf
  rw [if_pos hv] at hf
  obtain ⟨f, rfl⟩ : ∃ f', f = f' + 1 := ⟨f - 1, by omega⟩
  rw [dice_end hv hu] at h6
  exact three h6
theorem DiceAt.hit {s : ByteArray} {n x y v c : Int} {ok : Bool} {u : Nat} (h : DiceAt s n x y ok v c u) (hv : ¬ v < n) (hc : c < n) : x = c ∧ y = u ∧ ok = true := by
  obtain ⟨h1, h2, h3, h4, h5, f, hf, h6⟩ := h
  unfold steps at hf
  rw [if_neg hv] at hf
  obtain ⟨f, rfl⟩ : ∃ f', f = f' + 1 := ⟨f - 1, by omega⟩
  rw [dice_hit hv hc] at h6
  exact three h6
theorem DiceAt.less {s : ByteArray} {n x y v c : Int} {ok : Bool} {u : Nat} (h : DiceAt s n x y ok v c u) (hv : ¬ v < n) (hc : ¬ c < n) : DiceAt s n x y ok (v - n) (c - n) u ∧ v - n < n := by
  obtain ⟨h1, h2, h3, h4, h5, f, hf, h6⟩ := h
  unfold steps at hf
  rw [if_neg hv] at hf
  obtain ⟨f, rfl⟩ : ∃ f', f = f' + 1 := ⟨f - 1, by omega⟩
  rw [dice_less hv hc] at h6
  refine ⟨⟨by omega, by omega, by omega, by omega, by omega, f, ?_, h6⟩, by omega⟩
  unfold steps
  rw [if_pos (by omega)]
  omega
theorem dice_start (s : ByteArray) (n : Int) (hn : 1 ≤ n) : ∃ x y ok, DiceAt s n x y ok 1 0 0 := by
  obtain ⟨⟨x, y, ok⟩, h⟩ : ∃ p, dice s n (steps s n 1 0) 1 0 0 = p := ⟨_, rfl⟩
  exact ⟨x, y, ok, by omega, by omega, by omega, by omega, Nat.zero_le _, _, Nat.le_refl _, h⟩

/-- what is left, for both loops -/
def msr (s : ByteArray) (n v : Int) (u : Nat) : Nat := 2 * (s.size - u) + (if v < n then 0 else 1)
theorem msr_read {s : ByteArray} {n v v2 : Int} {u : Nat} (hv : v < n) (hu : u < s.size) : msr s n v2 (u + 1) < msr s n v u := by
  unfold msr
  rw [if_pos hv]
  split <;> omega
theorem msr_less {s : ByteArray} {n v : Int} {u : Nat} (hv : ¬ v < n) (h : v - n < n) : msr s n (v - n) u < msr s n v u := by
  unfold msr
  rw [if_neg hv, if_pos h]
  omega
/-- the rounds of the specification -/
theorem specDice_yes (n : Int) (s : ByteArray) (w : World) (h1 : 1 ≤ n) (h2 : n ≤ 1000000) (hs : BitsP s) (x y : Int) (ok : Bool) (hR : DiceAt s n x y ok 1 0 0) :
    Calls Try.prog 14 #[.int .i64 n, .string s] w fun e w' => e = .returned (.tuple #[.int .i64 x, .int .i64 y, .bool ok]) ∧ Below w.heap.size w w' := by
  have HS := Lib.hid hs
  have HR := Lib.hid hR
  have h4 := hs.len
  have HN : Hid (∀ W : World, Calls Try.prog 29 #[.int .i64 n] W fun e w' => e = .returned (.bool true) ∧ W = w') := fun W => l06Number_b n true (by simp; omega) W
  clear hs hR
  go_enter Try.func14, Try.ntmps14
  go_wp2_with fail
  refine (HN.out _).mono ?_
  rintro e w1 ⟨rfl, rfl⟩
  go_wp2_with fail
  refine (l01Bits_yes s w HS.out).mono ?_
  rintro e w2 ⟨rfl, rfl⟩
  go_wp2_with fail
  go_loop [7, 8, 9] (fun vv cv uv => ∃ (v c : Int) (u : Nat), vv = .int .i64 v ∧ cv = .int .i64 c ∧ uv = .int .i64 u ∧ Hid (DiceAt s n x y ok v c u)) (fun vv _ uv => msr s n (intOf vv) (intOf uv).toNat)
  case atStart => exact ⟨1, 0, 0, rfl, rfl, rfl, HR.out⟩
  case round =>
    obtain ⟨v0, c0, u0, rfl, rfl, rfl, HD0⟩ := hrel
    clear HR
    go_wp2_with fail
    go_loop [7, 8, 9] (fun vv cv uv => ∃ (v c : Int) (u : Nat), vv = .int .i64 v ∧ cv = .int .i64 c ∧ uv = .int .i64 u ∧ Hid (DiceAt s n x y ok v c u) ∧ Hid (msr s n v u ≤ msr s n v0 u0)) (fun vv _ uv => msr s n (intOf vv) (intOf uv).toNat)
    case atStart => exact ⟨v0, c0, u0, rfl, rfl, rfl, HD0, Nat.le_refl _⟩
    case round =>
      obtain ⟨v, c, u, rfl, rfl, rfl, HD, HM⟩ := hrel
      clear HD0
      obtain ⟨d1, d2, d3, d4, d5, _⟩ := HD.out
      by_cases hv : v < n
      · by_cases hu : u < s.size
        · have e1 := get_bt s u hu
          have hb := bit_in HS.out.all hu
          have HD2 := Lib.hid (HD.out.read HS.out.all hv hu)
          have HM2 : Hid (msr s n (2 * v) (u + 1) < msr s n v u) := msr_read hv hu
          rw [Int.mul_comm 2 v] at HD2 HM2
          rw [← e1] at hb
          have hE : Hid (bt s u = ((s[u]'hu).toNat : Int)) := e1.symm
          rw [hE.out] at HD2
          have hne : ((u : Int) == (s.size : Int)) = false := by simp; omega
          clear e1 HD hE
          go_wp2
          go_round
          case rel => exact ⟨_, _, u + 1, rfl, by go_num, by go_num, HD2.out, Nat.le_trans (Nat.le_of_lt HM2.out) HM.out⟩
          case measure => simp [intOf]; exact HM2.out
        · obtain ⟨rfl, rfl, rfl⟩ := HD.out.end_ hv hu
          obtain rfl : u = s.size := by omega
          go_wp2
          go_returns
          exact ⟨rfl, Below.refl _ _⟩
      · by_cases hc : c < n
        · obtain ⟨rfl, rfl, rfl⟩ := HD.out.hit hv hc
          go_wp2
          go_returns
          exact ⟨rfl, Below.refl _ _⟩
        · obtain ⟨hd, hvn⟩ := HD.out.less hv hc
          have HD2 := Lib.hid hd
          have HM2 : Hid (msr s n (v - n) u < msr s n v u) := msr_less hv hvn
          clear hd HD
          go_wp2
          go_round
          case rel => exact ⟨_, _, u, rfl, rfl, rfl, HD2.out⟩
          case measure => simp [intOf]; exact Nat.lt_of_lt_of_le HM2.out HM.out

theorem specDice_no (n : Int) (s : ByteArray) (w : World) (hm : s.size ≤ maxLen) (h : ¬ ((1 ≤ n ∧ n ≤ 1000000) ∧ BitsP s)) :
    Calls Try.prog 14 #[.int .i64 n, .string s] w fun e w' => e = .returned (.tuple #[.int .i64 0, .int .i64 0, .bool false]) ∧ Below w.heap.size w w' := by
  by_cases hn : 1 ≤ n ∧ n ≤ 1000000
  · have HN : Hid (∀ W : World, Calls Try.prog 29 #[.int .i64 n] W fun e w' => e = .returned (.bool true) ∧ W = w') := fun W => l06Number_b n true (decide_eq_true hn) W
    have HB : Hid (∀ W : World, Calls Try.prog 35 #[.string s] W fun e w' => e = .returned (.bool false) ∧ W = w') := fun W => l01Bits_no s W hm fun x => h ⟨hn, x⟩
    clear h hn
    go_enter Try.func14, Try.ntmps14
    go_wp2_with fail
    refine (HN.out _).mono ?_
    rintro e w1 ⟨rfl, rfl⟩
    go_wp2_with fail
    refine (HB.out w).mono ?_
    rintro e w2 ⟨rfl, rfl⟩
    go_wp2
    go_returns
    exact ⟨rfl, Below.refl _ _⟩
  · have HN : Hid (∀ W : World, Calls Try.prog 29 #[.int .i64 n] W fun e w' => e = .returned (.bool false) ∧ W = w') := fun W => l06Number_b n false (decide_eq_false hn) W
    clear h hn
    go_enter Try.func14, Try.ntmps14
    go_wp2_with fail
    refine (HN.out _).mono ?_
    rintro e w1 ⟨rfl, rfl⟩
    go_wp2
    go_returns
    exact ⟨rfl, Below.refl _ _⟩

/-- what is left of the rounds with a reader -/
def dm (s : ByteArray) (n : Int) (b : Nat) (v c : Int) (w : World) : Nat := match w.cell? ⟨b, 2, none⟩ with
  | some (.bool true) => 2 * (n - (v - c)).toNat + (if v < n then 0 else 1)
  | _ => 2 * (s.size - (match w.cell? ⟨b, 1, none⟩ with
    | some u => (intOf u).toNat
    | none => 0)) + (if v < n then 0 else 1) + 2 * n.toNat + 2
theorem dm_ok {w : World} {b : Nat} {s : ByteArray} {u : Nat} (h : Rd w b s u false) (n v c : Int) : dm s n b v c w = 2 * (s.size - u) + (if v < n then 0 else 1) + 2 * n.toNat + 2 := by
  unfold dm
  rw [h.1.2.1, h.1.2.2]
  simp [intOf]
theorem dm_no {w : World} {b : Nat} {s : ByteArray} {u : Nat} (h : Rd w b s u true) (n v c : Int) : dm s n b v c w = 2 * (n - (v - c)).toNat + (if v < n then 0 else 1) := by
  unfold dm
  rw [h.1.2.2]
/-- a roll under way -/
def DiceW (s : ByteArray) (n x y : Int) (ok : Bool) (b : Nat) (v c : Int) (wr : World) : Prop :=
  (∃ u, Rd wr b s u false ∧ BitsP s ∧ DiceAt s n x y ok v c u) ∨ (∃ u, Rd wr b s u true ∧ (x = 0 ∧ y = 0 ∧ ok = false) ∧ 1 ≤ v ∧ v < 2 * n ∧ 0 ≤ c ∧ c < v)
theorem dice_core (n : Int) (s : ByteArray) (f : Bool) (w : World) (h1 : 1 ≤ n) (h2 : n ≤ 1000000) (x y : Int) (ok : Bool) (HF : Hid (∀ W : World, Calls Try.prog 36 #[.string s] W (NewRd s f W)))
    (hR : (f = false ∧ BitsP s ∧ DiceAt s n x y ok 1 0 0) ∨ (f = true ∧ x = 0 ∧ y = 0 ∧ ok = false)) :
    Calls Try.prog 15 #[.int .i64 n, .string s] w fun e w' => e = .returned (.tuple #[.int .i64 x, .int .i64 y, .bool ok]) ∧ Below w.heap.size w w' := by
  have HR := Lib.hid hR
  clear hR
  go_enter Try.func15, Try.ntmps15
  go_wp2_with fail
  refine (btw64_yes n 1 1000000 _ h1 h2).mono ?_
  rintro e w1 ⟨rfl, rfl⟩
  go_wp2_with fail
  refine (HF.out _).mono ?_
  rintro e w3 ⟨b, rfl, hbb, hrd, hb3⟩
  have HI : Hid (DiceW s n x y ok b 1 0 w3) := by
    rcases HR.out with ⟨rfl, hs, hd⟩ | ⟨rfl, hz⟩
    · exact .inl ⟨0, hrd, hs, hd⟩
    · exact .inr ⟨0, hrd, hz, by omega, by omega, by omega, by omega⟩
  have HB3 := Lib.hid hb3
  clear HR hrd hb3 HF
  go_wp2_with fail
  go_loopw [8, 9] (fun vv cv wr => ∃ v c : Int, vv = .int .i64 v ∧ cv = .int .i64 c ∧ Hid (Below w.heap.size w wr) ∧ Hid (DiceW s n x y ok b v c wr)) (fun vv cv wr => dm s n b (intOf vv) (intOf cv) wr)
  case atStart => exact ⟨1, 0, rfl, rfl, HB3, HI⟩
  case round =>
    obtain ⟨v0, c0, rfl, rfl, HB0, HD0⟩ := hrel
    obtain ⟨W0, rfl⟩ : ∃ W0, W0 = wr := ⟨_, rfl⟩
    clear HI HB3
    go_wp2_with fail
    go_loopw [8, 9] (fun vv cv wr => ∃ v c : Int, vv = .int .i64 v ∧ cv = .int .i64 c ∧ Hid (Below w.heap.size w wr) ∧ Hid (DiceW s n x y ok b v c wr) ∧ Hid (dm s n b v c wr ≤ dm s n b v0 c0 W0)) (fun vv cv wr => dm s n b (intOf vv) (intOf cv) wr)
    case atStart => exact ⟨v0, c0, rfl, rfl, HB0, HD0, Nat.le_refl _⟩
    case round =>
      obtain ⟨v, c, rfl, rfl, HB, HD, HM⟩ := hrel
      clear HD0 HB0
      rcases HD.out with ⟨u, hrd, hs, hd⟩ | ⟨u, hrd, hz, d1, d2, d3, d4⟩
      · obtain ⟨d1, d2, d3, d4, d5, _⟩ := id hd
        have HRD := Lib.hid hrd
        have HS := Lib.hid hs
        have HDD := Lib.hid hd
        clear hrd hs hd HD
        by_cases hv : v < n
        · by_cases hu : u < s.size
          · have hb := bit_in HS.out.all hu
            have HD2 := Lib.hid (HDD.out.read HS.out.all hv hu)
            have HN : Hid (∀ W : World, Rd W b s u false → Calls Try.prog 37 #[.pointer (some ⟨b, 0, none⟩)] W fun e w' => e = .returned (.int .i64 (bt s u - 48)) ∧ Rd w' b s (u + 1) false ∧ W.grownBy w' (some b)) := fun W h => rdNext_yes b s u W h HS.out hu
            have ht2 : 0 ≤ bt s u - 48 ∧ bt s u - 48 ≤ 1 := by omega
            generalize bt s u - 48 = t at HN HD2 ht2
            have ht : 0 ≤ 2 * c + t ∧ 2 * c + t < 4000000 := by omega
            go_wp2_with fail
            refine (HN.out _ HRD.out).mono ?_
            rintro e w4 ⟨rfl, hrd4, hg4⟩
            have HK : Hid (Rd w4 b s (u + 1) false ∧ Below w.heap.size w w4) := ⟨hrd4, HB.out.grown hg4 HB.out.size (by simp; omega)⟩
            have HM2 : Hid (dm s n b (2 * v) (2 * c + t) w4 < dm s n b v c wr) := by
              unfold Hid
              rw [dm_ok hrd4, dm_ok HRD.out, if_pos hv]
              split <;> omega
            clear hrd4 hg4 hb
            go_wp2
            go_roundw
            case rel => exact ⟨_, _, rfl, rfl, HK.out.2, .inl ⟨u + 1, HK.out.1, HS.out, HD2.out⟩, Nat.le_trans (Nat.le_of_lt HM2.out) HM.out⟩
            case measure => simp [intOf]; exact HM2.out
          · obtain ⟨rfl, rfl, rfl⟩ := HDD.out.end_ hv hu
            obtain rfl : u = s.size := by omega
            have HN : Hid (∀ W : World, Rd W b s s.size false → Calls Try.prog 37 #[.pointer (some ⟨b, 0, none⟩)] W fun e w' => e = .returned (.int .i64 0) ∧ Rd w' b s s.size true ∧ W.grownBy w' (some b)) := fun W h => rdNext_no b s s.size false W h (.inr rfl)
            go_wp2_with fail
            refine (HN.out _ HRD.out).mono ?_
            rintro e w4 ⟨rfl, hrd4, hg4⟩
            have HK : Hid (Rd w4 b s s.size true ∧ Below w.heap.size w w4) := ⟨hrd4, HB.out.grown hg4 HB.out.size (by simp; omega)⟩
            have HM2 : Hid (dm s n b (2 * v) (2 * c) w4 < dm s n b v c wr) := by
              unfold Hid
              rw [dm_no hrd4, dm_ok HRD.out, if_pos hv]
              split <;> omega
            clear hrd4 hg4
            go_wp2
            go_roundw
            case rel => exact ⟨2 * v, 2 * c, rfl, by go_num, HK.out.2, .inr ⟨s.size, HK.out.1, ⟨rfl, rfl, rfl⟩, by omega, by omega, by omega, by omega⟩, Nat.le_trans (Nat.le_of_lt HM2.out) HM.out⟩
            case measure => simp [intOf]; exact HM2.out
        · by_cases hc : c < n
          · obtain ⟨rfl, rfl, rfl⟩ := HDD.out.hit hv hc
            go_wp2_with fail
            refine (drawn_yes b s u _ _ HRD.out).mono ?_
            rintro e w8 ⟨rfl, hb8⟩
            go_wp2
            go_returns
            exact ⟨rfl, HB.out.trans (hb8.mono HB.out.size)⟩
          · obtain ⟨hd, hvn⟩ := HDD.out.less hv hc
            have HD2 := Lib.hid hd
            have HM2 : Hid (dm s n b (v - n) (c - n) wr < dm s n b v c wr) := by
              unfold Hid
              rw [dm_ok HRD.out, dm_ok HRD.out, if_pos hvn, if_neg hv]
              omega
            clear hd
            go_wp2
            go_roundw
            case rel => exact ⟨_, _, rfl, rfl, HB, .inl ⟨u, HRD.out, HS.out, HD2.out⟩⟩
            case measure => simp [intOf]; exact Nat.lt_of_lt_of_le HM2.out HM.out
      · obtain ⟨rfl, rfl, rfl⟩ := hz
        have HRD := Lib.hid hrd
        clear hrd HD
        by_cases hv : v < n
        · have HN : Hid (∀ W : World, Rd W b s u true → Calls Try.prog 37 #[.pointer (some ⟨b, 0, none⟩)] W fun e w' => e = .returned (.int .i64 0) ∧ Rd w' b s u true ∧ W.grownBy w' (some b)) := fun W h => rdNext_no b s u true W h (.inl rfl)
          go_wp2_with fail
          refine (HN.out _ HRD.out).mono ?_
          rintro e w4 ⟨rfl, hrd4, hg4⟩
          have HK : Hid (Rd w4 b s u true ∧ Below w.heap.size w w4) := ⟨hrd4, HB.out.grown hg4 HB.out.size (by simp; omega)⟩
          have HM2 : Hid (dm s n b (2 * v) (2 * c) w4 < dm s n b v c wr) := by
            unfold Hid
            rw [dm_no hrd4, dm_no HRD.out, if_pos hv]
            split <;> omega
          clear hrd4 hg4
          go_wp2
          go_roundw
          case rel => exact ⟨2 * v, 2 * c, rfl, by go_num, HK.out.2, .inr ⟨u, HK.out.1, ⟨rfl, rfl, rfl⟩, by omega, by omega, by omega, by omega⟩, Nat.le_trans (Nat.le_of_lt HM2.out) HM.out⟩
          case measure => simp [intOf]; exact HM2.out
        · by_cases hc : c < n
          · go_wp2_with fail
            refine (drawn_no b s u _ _ HRD.out).mono ?_
            rintro e w8 ⟨rfl, hb8⟩
            go_wp2
            go_returns
            exact ⟨rfl, HB.out.trans (hb8.mono HB.out.size)⟩
          · have HM2 : Hid (dm s n b (v - n) (c - n) wr < dm s n b v c wr) := by
              unfold Hid
              rw [dm_no HRD.out, dm_no HRD.out, if_pos (by omega), if_neg hv]
              omega
            go_wp2
            go_roundw
            case rel => exact ⟨_, _, rfl, rfl, HB, .inr ⟨u, HRD.out, ⟨rfl, rfl, rfl⟩, by omega, by omega, by omega, by omega⟩⟩
            case measure => simp [intOf]; exact Nat.lt_of_lt_of_le HM2.out HM.out
theorem dice_no (n : Int) (s : ByteArray) (w : World) (h : ¬ (1 ≤ n ∧ n ≤ 1000000)) :
    Calls Try.prog 15 #[.int .i64 n, .string s] w fun e w' => e = .returned (.tuple #[.int .i64 0, .int .i64 0, .bool false]) ∧ Below w.heap.size w w' := by
  have HB : Hid (∀ W : World, Calls Try.prog 32 #[.int .i64 n, .int .i64 1, .int .i64 1000000] W fun e w' => e = .returned (.bool false) ∧ W = w') := fun W => btw64_no n 1 1000000 W h
  clear h
  go_enter Try.func15, Try.ntmps15
  go_wp2_with fail
  refine (HB.out _).mono ?_
  rintro e w1 ⟨rfl, rfl⟩
  go_wp2
  go_returns
  exact ⟨rfl, Below.refl _ _⟩
theorem lawDice_core (n : Int) (s : ByteArray) (w : World) (hl : s.size ≤ 1048576) (x y : Int) (ok : Bool)
    (HS : Hid (∀ W : World, Calls Try.prog 14 #[.int .i64 n, .string s] W fun e w' => e = .returned (.tuple #[.int .i64 x, .int .i64 y, .bool ok]) ∧ Below W.heap.size W w'))
    (HI : Hid (∀ W : World, Calls Try.prog 15 #[.int .i64 n, .string s] W fun e w' => e = .returned (.tuple #[.int .i64 x, .int .i64 y, .bool ok]) ∧ Below W.heap.size W w')) :
    Calls Try.prog 4 #[.int .i64 n, .string s] w fun e w' => e = .returned (.bool true) ∧ Below w.heap.size w w' := by
  have h1 : (x != x) = false := by simp
  have h2 : (y != y) = false := by simp
  have h3 : (ok != ok) = false := by simp
  go_enter Try.func4, Try.ntmps4
  go_wp2_with fail
  refine (HS.out _).mono ?_
  rintro e w1 ⟨rfl, hb⟩
  have B := hb
  clear hb
  go_wp2_with fail
  refine (HI.out _).mono ?_
  rintro e w2 ⟨rfl, hb⟩
  replace B := B.trans (hb.mono B.size)
  clear hb
  go_wp2
  go_ret
  exact ⟨rfl, B⟩
theorem lawDice (n : Int) (s : ByteArray) (w : World) (hm : s.size ≤ maxLen) :
    Calls Try.prog 4 #[.int .i64 n, .string s] w fun e w' => e = .returned (.bool true) ∧ Below w.heap.size w w' := by
  by_cases hl : s.size ≤ 1048576
  · by_cases h : 1 ≤ n ∧ n ≤ 1000000
    · by_cases hs : BitsP s
      · obtain ⟨x, y, ok, hD⟩ := dice_start s n h.1
        exact lawDice_core n s w hl x y ok (fun W => specDice_yes n s W h.1 h.2 hs x y ok hD) (fun W => dice_core n s false W h.1 h.2 x y ok (fun W => readerOf_yes s W hs) (.inl ⟨rfl, hs, hD⟩))
      · exact lawDice_core n s w hl 0 0 false (fun W => specDice_no n s W hm fun z => hs z.2) (fun W => dice_core n s true W h.1 h.2 0 0 false (fun W => readerOf_no s W hm hs) (.inr ⟨rfl, rfl, rfl, rfl⟩))
    · exact lawDice_core n s w hl 0 0 false (fun W => specDice_no n s W hm fun z => h z.1) (fun W => dice_no n s W h)
  · unfold maxLen at hm
    go_enter Try.func4, Try.ntmps4
    go_wp2
    go_ret
    exact ⟨rfl, Below.refl _ _⟩
end Go.Proofs.Ytamedggnkbhgeab
