/- Numbers by rejection: (*impl.bitReader).number, impl.RollReject, spec.RollReject, and the law. -/
import Derived.Test.YtamedggnkbhgeaaRdr
import Derived.Test.YtamedggnkbhgeaaRollMath
import Derived.Test.YtamedggnkbhgeaaWidth
namespace Go.Proofs.Ytamedggnkbhgeaa
open Go.RowKit Go.PlainAid
set_option maxHeartbeats 1000000

theorem pow_20 {k : Nat} (hk : k ≤ 20) : (2 : Int) ^ k ≤ 1048576 := by
  have h : (2 : Nat) ^ k ≤ 2 ^ 20 := Nat.pow_le_pow_right (by omega) hk
  have e : ((2 ^ k : Nat) : Int) = (2 : Int) ^ k := by simp
  rw [← e]
  omega
theorem numF_in {s : ByteArray} (h : AllIn 48 49 s) {i k : Nat} (h1 : i + k ≤ s.size) (hk : k ≤ 20) : 0 ≤ numF s i k ∧ numF s i k ≤ 1048575 := by
  have := numF_le s h i k h1
  have := pow_20 hk
  omega
theorem rdNumber_yes (b : Nat) (s : ByteArray) (u k : Nat) (w : World) (h : Rd w b s u false) (hs : BitsP s) (hu : u + k ≤ s.size) (hk : k ≤ 20) :
    Calls Try.prog 46 #[.pointer (some ⟨b, 0, none⟩), .int .i64 k] w fun e w' => e = .returned (.int .i64 (numF s u k)) ∧ Rd w' b s (u + k) false ∧ w.grownBy w' (some b) := by
  have HR := Lib.hid h
  have HS := Lib.hid hs
  clear h hs
  go_enter Try.func46, Try.ntmps46
  go_wp2_with fail
  go_loopw [5, 7] (fun nv iv wr => ∃ i : Nat, i ≤ k ∧ iv = .int .i64 i ∧ nv = .int .i64 (numF s u i) ∧ Hid (Rd wr b s (u + i) false) ∧ Hid (w.grownBy wr (some b))) (fun _ iv _ => k - (intOf iv).toNat)
  case atStart => exact ⟨0, Nat.zero_le _, rfl, rfl, HR.out, World.grownBy.refl _ _⟩
  case round =>
    obtain ⟨i, hi, rfl, rfl, HD, HG⟩ := hrel
    have hn := numF_in HS.out.all (show u + i ≤ s.size by omega) (by omega)
    by_cases hlt : i < k
    · have HN : Hid (∀ W : World, Rd W b s (u + i) false → Calls Try.prog 48 #[.pointer (some ⟨b, 0, none⟩)] W fun e w' => e = .returned (.int .i64 (bt s (u + i) - 48)) ∧ Rd w' b s (u + i + 1) false ∧ W.grownBy w' (some b)) := fun W h => rdNext_yes b s (u + i) W h HS.out (by omega)
      have hb := bit_in HS.out.all (show u + i < s.size by omega)
      have HE : Hid (numF s u (i + 1) = 2 * numF s u i + (bt s (u + i) - 48)) := rfl
      have hb2 : 0 ≤ bt s (u + i) - 48 ∧ bt s (u + i) - 48 ≤ 1 := by omega
      generalize bt s (u + i) - 48 = t at HN HE hb2
      clear hb
      go_wp2_with fail
      refine (HN.out _ HD.out).mono ?_
      rintro e w4 ⟨rfl, hrd4, hg4⟩
      have HK : Hid (Rd w4 b s (u + (i + 1)) false ∧ w.grownBy w4 (some b)) := ⟨hrd4, grow_trans HG.out hg4⟩
      clear hrd4 hg4
      go_wp2
      go_roundw
      case rel => exact ⟨i + 1, by omega, by go_num, by rw [HE.out], HK.out.1, HK.out.2⟩
      case measure => simp [intOf]; omega
    · obtain rfl : i = k := by omega
      go_wp2
      go_ret
      exact ⟨rfl, HD.out, HG.out⟩
def NumNo (b : Nat) (s : ByteArray) (f : Bool) (w : World) (e : Ending) (w' : World) : Prop := ∃ v : Int, e = .returned (.int .i64 v) ∧ (0 ≤ v ∧ v ≤ 1048575) ∧ (f = true → v = 0) ∧ (∃ u', Rd w' b s u' true) ∧ w.grownBy w' (some b)
theorem rdNumber_no (b : Nat) (s : ByteArray) (u k : Nat) (f : Bool) (w : World) (h : Rd w b s u f) (hf : f = false → BitsP s ∧ u ≤ s.size ∧ ¬ u + k ≤ s.size) (hk : k ≤ 20) :
    Calls Try.prog 46 #[.pointer (some ⟨b, 0, none⟩), .int .i64 k] w (NumNo b s f w) := by
  have HR := Lib.hid h
  have HF := Lib.hid hf
  clear h hf
  go_enter Try.func46, Try.ntmps46
  go_wp2_with fail
  go_loopw [5, 7] (fun nv iv wr => ∃ (i u' : Nat) (v : Int) (f' : Bool), i ≤ k ∧ iv = .int .i64 i ∧ nv = .int .i64 v ∧ 0 ≤ v ∧ v + 1 ≤ 2 ^ i ∧ Hid (f = true → v = 0) ∧ Hid (Rd wr b s u' f') ∧ Hid (f' = false → f = false ∧ u' = u + i ∧ u' ≤ s.size) ∧ Hid (f = true → f' = true) ∧ Hid (w.grownBy wr (some b))) (fun _ iv _ => k - (intOf iv).toNat)
  case atStart => exact ⟨0, u, 0, f, Nat.zero_le _, rfl, rfl, by omega, by decide, fun _ => rfl, HR.out, fun e => ⟨e, rfl, (HF.out e).2.1⟩, fun e => e, World.grownBy.refl _ _⟩
  case round =>
    obtain ⟨i, u', v, f', hi, rfl, rfl, v0, v1, HZ, HD, HT, HU, HG⟩ := hrel
    have hp := pow_20 (show i ≤ 20 by omega)
    have hv1 : v ≤ 1048575 := by omega
    by_cases hlt : i < k
    · have HP : Hid ((2 : Int) ^ (i + 1) = 2 * 2 ^ i) := by unfold Hid; rw [Int.pow_succ]; omega
      have HV := Lib.hid v1
      clear v1 hp
      by_cases hc : f' = false ∧ u' < s.size
      · obtain ⟨rfl, hu'⟩ := hc
        obtain ⟨hff, hu2, _⟩ := HT.out rfl
        have hs := (HF.out hff).1
        have HN : Hid (∀ W : World, Rd W b s u' false → Calls Try.prog 48 #[.pointer (some ⟨b, 0, none⟩)] W fun e w' => e = .returned (.int .i64 (bt s u' - 48)) ∧ Rd w' b s (u' + 1) false ∧ W.grownBy w' (some b)) := fun W h => rdNext_yes b s u' W h hs hu'
        have hb := bit_in hs.all hu'
        have hb2 : 0 ≤ bt s u' - 48 ∧ bt s u' - 48 ≤ 1 := by omega
        generalize bt s u' - 48 = t at HN hb2
        have HFF := Lib.hid hff
        have HU2 := Lib.hid hu2
        clear hb hs hff hu2
        go_wp2_with fail
        refine (HN.out _ HD.out).mono ?_
        rintro e w4 ⟨rfl, hrd4, hg4⟩
        have HK : Hid (Rd w4 b s (u' + 1) false ∧ w.grownBy w4 (some b)) := ⟨hrd4, grow_trans HG.out hg4⟩
        clear hrd4 hg4
        go_wp2
        go_roundw
        case rel => exact ⟨i + 1, u' + 1, _, false, by omega, by go_num, rfl, by omega, by have := HV.out; rw [HP.out]; omega, (fun e => by (rw [HFF.out] at e; cases e)), HK.out.1, fun _ => ⟨HFF.out, by have := HU2.out; omega, by omega⟩, (fun e => by (rw [HFF.out] at e; cases e)), HK.out.2⟩
        case measure => simp [intOf]; omega
      · have HN : Hid (∀ W : World, Rd W b s u' f' → Calls Try.prog 48 #[.pointer (some ⟨b, 0, none⟩)] W fun e w' => e = .returned (.int .i64 0) ∧ Rd w' b s u' true ∧ W.grownBy w' (some b)) := fun W h => rdNext_no b s u' f' W h (by
          cases f'
          · have := (HT.out rfl).2.2
            exact .inr (by have : ¬ u' < s.size := fun x => hc ⟨rfl, x⟩; omega)
          · exact .inl rfl)
        clear hc
        go_wp2_with fail
        refine (HN.out _ HD.out).mono ?_
        rintro e w4 ⟨rfl, hrd4, hg4⟩
        have HK : Hid (Rd w4 b s u' true ∧ w.grownBy w4 (some b)) := ⟨hrd4, grow_trans HG.out hg4⟩
        clear hrd4 hg4
        go_wp2
        go_roundw
        case rel => exact ⟨i + 1, u', 2 * v, true, by omega, by go_num, by go_num, by omega, by have := HV.out; rw [HP.out]; omega, fun e => by rw [HZ.out e]; rfl, HK.out.1, (fun e => by (cases e)), fun _ => rfl, HK.out.2⟩
        case measure => simp [intOf]; omega
    · obtain rfl : i = k := by omega
      have hft : f' = true := by
        cases f'
        · obtain ⟨h1, h2, h3⟩ := HT.out rfl
          exact absurd (h2 ▸ h3) (HF.out h1).2.2
        · rfl
      subst hft
      clear hp v1
      go_wp2
      go_ret
      exact ⟨v, rfl, ⟨v0, hv1⟩, HZ.out, ⟨u', HD.out⟩, HG.out⟩

/-- rejection under way at bit u -/
def RejAt (s : ByteArray) (n : Int) (k : Nat) (x y : Int) (ok : Bool) (u : Nat) : Prop := u ≤ s.size ∧ ∃ f, s.size - u + 1 ≤ f ∧ rej s n k f u = (x, y, ok)
theorem three' {x u a b : Int} {ok c : Bool} (h : (a, b, c) = (x, u, ok)) : x = a ∧ u = b ∧ ok = c := ⟨(congrArg Prod.fst h).symm, (congrArg (fun t => t.2.1) h).symm, (congrArg (fun t => t.2.2) h).symm⟩
theorem RejAt.hit {s : ByteArray} {n x y : Int} {k u : Nat} {ok : Bool} (h : RejAt s n k x y ok u) (hu : u + k ≤ s.size) (hv : numF s u k < n) : x = numF s u k ∧ y = ((u + k : Nat) : Int) ∧ ok = true := by
  obtain ⟨h0, f, hf, h⟩ := h
  obtain ⟨f, rfl⟩ : ∃ f', f = f' + 1 := ⟨f - 1, by omega⟩
  rw [rej, if_pos hu, if_pos hv] at h
  exact three' h
theorem RejAt.next {s : ByteArray} {n x y : Int} {k u : Nat} {ok : Bool} (h : RejAt s n k x y ok u) (hu : u + k ≤ s.size) (hv : ¬ numF s u k < n) (hk : 1 ≤ k) : RejAt s n k x y ok (u + k) := by
  obtain ⟨h0, f, hf, h⟩ := h
  obtain ⟨f, rfl⟩ : ∃ f', f = f' + 1 := ⟨f - 1, by omega⟩
  rw [rej, if_pos hu, if_neg hv] at h
  exact ⟨hu, f, by omega, h⟩
theorem RejAt.out {s : ByteArray} {n x y : Int} {k u : Nat} {ok : Bool} (h : RejAt s n k x y ok u) (hu : ¬ u + k ≤ s.size) : x = 0 ∧ y = 0 ∧ ok = false := by
  obtain ⟨h0, f, hf, h⟩ := h
  obtain ⟨f, rfl⟩ : ∃ f', f = f' + 1 := ⟨f - 1, by omega⟩
  rw [rej, if_neg hu] at h
  exact three' h
theorem rej_start (s : ByteArray) (n : Int) (k : Nat) : ∃ x y ok, RejAt s n k x y ok 0 := by
  obtain ⟨⟨x, y, ok⟩, h⟩ : ∃ p, rej s n k (s.size + 1) 0 = p := ⟨_, rfl⟩
  exact ⟨x, y, ok, Nat.zero_le _, _, by omega, h⟩
/-- a width that is not 0 if a number can be rejected -/
theorem rej_pos {s : ByteArray} {n : Int} {u k : Nat} (hn : 1 ≤ n) (h : ¬ numF s u k < n) : 1 ≤ k := by
  cases k with
  | zero => simp [numF] at h; omega
  | succ k => omega

theorem reject_core (n : Nat) (s : ByteArray) (f : Bool) (w : World) (h1 : 1 ≤ n) (h2 : n ≤ 1000000) (x y : Int) (ok : Bool) (HF : Hid (∀ W : World, Calls Try.prog 44 #[.string s] W (NewRd s f W)))
    (hR : (f = false ∧ BitsP s ∧ RejAt s n (Pl.len (n - 1)) x y ok 0) ∨ (f = true ∧ x = 0 ∧ y = 0 ∧ ok = false)) :
    Calls Try.prog 17 #[.int .i64 n, .string s] w fun e w' => e = .returned (.tuple #[.int .i64 x, .int .i64 y, .bool ok]) ∧ Below w.heap.size w w' := by
  have HR := Lib.hid hR
  have hle : Pl.len (n - 1) ≤ 20 := (len_iff h1).2 (by omega)
  have HW : Hid (∀ W : World, Calls Try.prog 45 #[.int .i64 n] W fun e w' => e = .returned (.int .i64 (Pl.len (n - 1))) ∧ W = w') := fun W => widthBelow_any n W h1 h2
  generalize Pl.len (n - 1) = L at hle HW HR
  clear hR
  go_enter Try.func17, Try.ntmps17
  go_wp2_with fail
  refine (btw64_yes n 1 1000000 _ (by omega) (by omega)).mono ?_
  rintro e w1 ⟨rfl, rfl⟩
  go_wp2_with fail
  refine (HF.out _).mono ?_
  rintro e w3 ⟨b, rfl, hbb, hrd, hb3⟩
  have HI : Hid ((∃ u, Rd w3 b s u false ∧ BitsP s ∧ RejAt s n L x y ok u) ∨ (∃ u, Rd w3 b s u true ∧ (x = 0 ∧ y = 0 ∧ ok = false))) := by
    rcases HR.out with ⟨rfl, hs, hd⟩ | ⟨rfl, hz⟩
    · exact .inl ⟨0, hrd, hs, hd⟩
    · exact .inr ⟨0, hrd, hz⟩
  have HB3 := Lib.hid hb3
  clear HR hrd hb3 HF
  go_wp2_with fail
  refine (HW.out _).mono ?_
  rintro e w4 ⟨rfl, rfl⟩
  go_wp2_with fail
  go_loopw [9] (fun _ wr => Hid (Below w.heap.size w wr) ∧ Hid ((∃ u, Rd wr b s u false ∧ BitsP s ∧ RejAt s n L x y ok u) ∨ (∃ u, Rd wr b s u true ∧ (x = 0 ∧ y = 0 ∧ ok = false)))) (fun _ wr => rdLeft b s.size wr)
  case atStart => exact ⟨HB3, HI⟩
  case round =>
    obtain ⟨HB, HD⟩ := hrel
    clear HI HB3
    rcases HD.out with ⟨u, hrd, hs, hd⟩ | ⟨u, hrd, hz⟩
    · have HRD := Lib.hid hrd
      have HS := Lib.hid hs
      have HDD := Lib.hid hd
      have hus := hd.1
      clear hrd hs hd HD
      by_cases hu : u + L ≤ s.size
      · have HN : Hid (∀ W : World, Rd W b s u false → Calls Try.prog 46 #[.pointer (some ⟨b, 0, none⟩), .int .i64 L] W fun e w' => e = .returned (.int .i64 (numF s u L)) ∧ Rd w' b s (u + L) false ∧ W.grownBy w' (some b)) := fun W h => rdNumber_yes b s u L W h HS.out hu hle
        by_cases hv : numF s u L < n
        · obtain ⟨rfl, rfl, rfl⟩ := HDD.out.hit hu hv
          go_wp2_with fail
          refine (HN.out _ HRD.out).mono ?_
          rintro e w5 ⟨rfl, hrd5, hg5⟩
          have HK : Hid (Rd w5 b s (u + L) false ∧ Below w.heap.size w w5) := ⟨hrd5, HB.out.grown hg5 HB.out.size (by simp; omega)⟩
          clear hrd5 hg5
          go_wp2_with fail
          refine (drawn_yes b s (u + L) _ _ HK.out.1).mono ?_
          rintro e w8 ⟨rfl, hb8⟩
          go_wp2
          go_returns
          exact ⟨rfl, HK.out.2.trans (hb8.mono HK.out.2.size)⟩
        · have HD2 := Lib.hid (HDD.out.next hu hv (rej_pos (by omega) hv))
          have hL := rej_pos (by omega) hv
          go_wp2_with fail
          refine (HN.out _ HRD.out).mono ?_
          rintro e w5 ⟨rfl, hrd5, hg5⟩
          have HK : Hid (Rd w5 b s (u + L) false ∧ Below w.heap.size w w5) := ⟨hrd5, HB.out.grown hg5 HB.out.size (by simp; omega)⟩
          have HM2 : Hid (rdLeft b s.size w5 < rdLeft b s.size wr) := by
            unfold Hid
            rw [left_ok hrd5, left_ok HRD.out]
            omega
          clear hrd5 hg5
          go_wp2
          go_roundw
          case rel => exact ⟨HK.out.2, .inl ⟨u + L, HK.out.1, HS.out, HD2.out⟩⟩
          case measure => exact HM2.out
      · obtain ⟨rfl, rfl, rfl⟩ := HDD.out.out hu
        have HN : Hid (∀ W : World, Rd W b s u false → Calls Try.prog 46 #[.pointer (some ⟨b, 0, none⟩), .int .i64 L] W (NumNo b s false W)) := fun W h => rdNumber_no b s u L false W h (fun _ => ⟨HS.out, hus, hu⟩) hle
        go_wp2_with fail
        refine (HN.out _ HRD.out).mono ?_
        rintro e w5 ⟨v, rfl, ⟨v0, v1⟩, _, ⟨u', hrd5⟩, hg5⟩
        have HK : Hid (Rd w5 b s u' true ∧ Below w.heap.size w w5) := ⟨hrd5, HB.out.grown hg5 HB.out.size (by simp; omega)⟩
        have HM2 : Hid (rdLeft b s.size w5 < rdLeft b s.size wr) := by
          unfold Hid
          rw [left_no hrd5, left_ok HRD.out]
          omega
        clear hrd5 hg5
        by_cases hv : v < n
        · go_wp2_with fail
          refine (drawn_no b s u' _ _ HK.out.1).mono ?_
          rintro e w8 ⟨rfl, hb8⟩
          go_wp2
          go_returns
          exact ⟨rfl, HK.out.2.trans (hb8.mono HK.out.2.size)⟩
        · go_wp2
          go_roundw
          case rel => exact ⟨HK.out.2, .inr ⟨u', HK.out.1, by first | exact ⟨rfl, rfl, rfl⟩ | simp⟩⟩
          case measure => exact HM2.out
    · obtain ⟨rfl, rfl, rfl⟩ := hz
      have HRD := Lib.hid hrd
      clear hrd HD
      have HN : Hid (∀ W : World, Rd W b s u true → Calls Try.prog 46 #[.pointer (some ⟨b, 0, none⟩), .int .i64 L] W (NumNo b s true W)) := fun W h => rdNumber_no b s u L true W h (fun e => by cases e) hle
      go_wp2_with fail
      refine (HN.out _ HRD.out).mono ?_
      rintro e w5 ⟨v, rfl, _, hz, ⟨u', hrd5⟩, hg5⟩
      obtain rfl : v = 0 := hz rfl
      have HK : Hid (Rd w5 b s u' true ∧ Below w.heap.size w w5) := ⟨hrd5, HB.out.grown hg5 HB.out.size (by simp; omega)⟩
      have hv : (0 : Int) < n := by omega
      clear hrd5 hg5 hz
      go_wp2_with fail
      refine (drawn_no b s u' _ _ HK.out.1).mono ?_
      rintro e w8 ⟨rfl, hb8⟩
      go_wp2
      go_returns
      exact ⟨rfl, HK.out.2.trans (hb8.mono HK.out.2.size)⟩
theorem reject_no (n : Int) (s : ByteArray) (w : World) (h : ¬ (1 ≤ n ∧ n ≤ 1000000)) :
    Calls Try.prog 17 #[.int .i64 n, .string s] w fun e w' => e = .returned (.tuple #[.int .i64 0, .int .i64 0, .bool false]) ∧ Below w.heap.size w w' := by
  have HB : Hid (∀ W : World, Calls Try.prog 43 #[.int .i64 n, .int .i64 1, .int .i64 1000000] W fun e w' => e = .returned (.bool false) ∧ W = w') := fun W => btw64_no n 1 1000000 W h
  clear h
  go_enter Try.func17, Try.ntmps17
  go_wp2_with fail
  refine (HB.out _).mono ?_
  rintro e w1 ⟨rfl, rfl⟩
  go_wp2
  go_returns
  exact ⟨rfl, Below.refl _ _⟩
theorem specReject_yes (n : Nat) (s : ByteArray) (w : World) (h1 : 1 ≤ n) (h2 : n ≤ 1000000) (hs : BitsP s) (x y : Int) (ok : Bool) (hR : RejAt s n (Pl.len (n - 1)) x y ok 0) :
    Calls Try.prog 36 #[.int .i64 n, .string s] w fun e w' => e = .returned (.tuple #[.int .i64 x, .int .i64 y, .bool ok]) ∧ Below w.heap.size w w' := by
  have HS := Lib.hid hs
  have HR := Lib.hid hR
  have h4 := hs.len
  have hle : Pl.len (n - 1) ≤ 20 := (len_iff h1).2 (by omega)
  have HN : Hid (∀ W : World, Calls Try.prog 72 #[.int .i64 n] W fun e w' => e = .returned (.bool true) ∧ W = w') := fun W => l06Number_b n true (by simp; omega) W
  have HW : Hid (∀ W : World, Calls Try.prog 74 #[.int .i64 n] W fun e w' => e = .returned (.int .i64 (Pl.len (n - 1))) ∧ W = w') := fun W => l06Width_any n W h1 h2
  clear hR
  generalize Pl.len (n - 1) = L at hle HW HR
  clear hs
  go_enter Try.func36, Try.ntmps36
  go_wp2_with fail
  refine (HN.out _).mono ?_
  rintro e w1 ⟨rfl, rfl⟩
  go_wp2_with fail
  refine (l01Bits_yes s w HS.out).mono ?_
  rintro e w2 ⟨rfl, rfl⟩
  go_wp2_with fail
  refine (HW.out _).mono ?_
  rintro e w2 ⟨rfl, rfl⟩
  go_wp2_with fail
  go_loop [8, 9, 10] (fun av _ _ => ∃ u : Nat, av = .int .i64 u ∧ u ≤ s.size ∧ Hid (RejAt s n L x y ok u)) (fun av _ _ => s.size - (intOf av).toNat)
  case atStart => exact ⟨0, rfl, Nat.zero_le _, HR.out⟩
  case round =>
    obtain ⟨u, rfl, hus, HD⟩ := hrel
    clear HR
    by_cases hu : u + L ≤ s.size
    · go_wp2_with fail
      go_loop [9, 10] (fun vv iv => ∃ i : Nat, i ≤ L ∧ iv = .int .i64 (u + i : Nat) ∧ vv = .int .i64 (numF s u i)) (fun _ iv => u + L - (intOf iv).toNat)
      case atStart => exact ⟨0, Nat.zero_le _, rfl, rfl⟩
      case round =>
        obtain ⟨i, hi, rfl, rfl⟩ := hrel
        have hn := numF_in HS.out.all (show u + i ≤ s.size by omega) (by omega)
        by_cases hlt : i < L
        · obtain ⟨p, hp⟩ : ∃ p, p = u + i := ⟨_, rfl⟩
          have hps : p < s.size := by omega
          have hb := bit_in HS.out.all hps
          have e1 := get_bt s p hps
          have HE : Hid (numF s u (i + 1) = 2 * numF s u i + (((s[p]'hps).toNat : Int) - 48)) := by unfold Hid; rw [e1, hp]; rfl
          rw [← e1] at hb
          rw [← hp]
          have HP := Lib.hid hp
          have hlt2 : p < u + L := by omega
          clear e1 hp
          go_wp2
          go_round
          case rel => exact ⟨i + 1, by omega, by rw [HP.out]; go_num, by rw [HE.out, Int.mul_comm]⟩
          case measure => simp [intOf]; omega
        · obtain rfl : i = L := by omega
          by_cases hv : numF s u i < n
          · obtain ⟨rfl, rfl, rfl⟩ := HD.out.hit hu hv
            go_wp2
            go_returns
            exact ⟨rfl, Below.refl _ _⟩
          · have HD2 := Lib.hid (HD.out.next hu hv (rej_pos (by omega) hv))
            have hL := rej_pos (by omega) hv
            go_wp2
            go_round
            case rel => exact ⟨u + i, by go_num, by omega, HD2.out⟩
            case measure => simp [intOf]; omega
    · obtain ⟨rfl, rfl, rfl⟩ := HD.out.out hu
      go_wp2
      go_returns
      exact ⟨rfl, Below.refl _ _⟩
theorem specReject_no (n : Int) (s : ByteArray) (w : World) (hm : s.size ≤ maxLen) (h : ¬ ((1 ≤ n ∧ n ≤ 1000000) ∧ BitsP s)) :
    Calls Try.prog 36 #[.int .i64 n, .string s] w fun e w' => e = .returned (.tuple #[.int .i64 0, .int .i64 0, .bool false]) ∧ Below w.heap.size w w' := by
  by_cases hn : 1 ≤ n ∧ n ≤ 1000000
  · have HN : Hid (∀ W : World, Calls Try.prog 72 #[.int .i64 n] W fun e w' => e = .returned (.bool true) ∧ W = w') := fun W => l06Number_b n true (decide_eq_true hn) W
    have HB : Hid (∀ W : World, Calls Try.prog 73 #[.string s] W fun e w' => e = .returned (.bool false) ∧ W = w') := fun W => l01Bits_no s W hm fun x => h ⟨hn, x⟩
    clear h hn
    go_enter Try.func36, Try.ntmps36
    go_wp2_with fail
    refine (HN.out _).mono ?_
    rintro e w1 ⟨rfl, rfl⟩
    go_wp2_with fail
    refine (HB.out w).mono ?_
    rintro e w2 ⟨rfl, rfl⟩
    go_wp2
    go_returns
    exact ⟨rfl, Below.refl _ _⟩
  · have HN : Hid (∀ W : World, Calls Try.prog 72 #[.int .i64 n] W fun e w' => e = .returned (.bool false) ∧ W = w') := fun W => l06Number_b n false (decide_eq_false hn) W
    clear h hn
    go_enter Try.func36, Try.ntmps36
    go_wp2_with fail
    refine (HN.out _).mono ?_
    rintro e w1 ⟨rfl, rfl⟩
    go_wp2
    go_returns
    exact ⟨rfl, Below.refl _ _⟩
theorem lawRej_core (n : Int) (s : ByteArray) (w : World) (hl : s.size ≤ 1048576) (x y : Int) (ok : Bool)
    (HS : Hid (∀ W : World, Calls Try.prog 36 #[.int .i64 n, .string s] W fun e w' => e = .returned (.tuple #[.int .i64 x, .int .i64 y, .bool ok]) ∧ Below W.heap.size W w'))
    (HI : Hid (∀ W : World, Calls Try.prog 17 #[.int .i64 n, .string s] W fun e w' => e = .returned (.tuple #[.int .i64 x, .int .i64 y, .bool ok]) ∧ Below W.heap.size W w')) :
    Calls Try.prog 9 #[.int .i64 n, .string s] w fun e w' => e = .returned (.bool true) ∧ Below w.heap.size w w' := by
  have h1 : (x != x) = false := by simp
  have h2 : (y != y) = false := by simp
  have h3 : (ok != ok) = false := by simp
  go_enter Try.func9, Try.ntmps9
  go_wp2_with fail
  refine (HS.out _).mono ?_
  rintro e w1 ⟨rfl, hb⟩
  have B := hb
  clear hb
  go_wp2_with fail
  refine (HI.out _).mono ?_
  rintro e w2 ⟨rfl, hb⟩
  replace B := B.trans (hb.mono B.size)
  clear hb
  go_wp2
  go_ret
  exact ⟨rfl, B⟩
theorem lawRej (n : Int) (s : ByteArray) (w : World) (hm : s.size ≤ maxLen) :
    Calls Try.prog 9 #[.int .i64 n, .string s] w fun e w' => e = .returned (.bool true) ∧ Below w.heap.size w w' := by
  by_cases hl : s.size ≤ 1048576
  · by_cases h : 1 ≤ n ∧ n ≤ 1000000
    · by_cases hs : BitsP s
      · obtain ⟨m, rfl⟩ := Int.eq_ofNat_of_zero_le (a := n) (by omega)
        obtain ⟨x, y, ok, hD⟩ := rej_start s m (Pl.len (m - 1))
        exact lawRej_core m s w hl x y ok (fun W => specReject_yes m s W (by omega) (by omega) hs x y ok hD) (fun W => reject_core m s false W (by omega) (by omega) x y ok (fun W => readerOf_yes s W hs) (.inl ⟨rfl, hs, hD⟩))
      · obtain ⟨m, rfl⟩ := Int.eq_ofNat_of_zero_le (a := n) (by omega)
        exact lawRej_core m s w hl 0 0 false (fun W => specReject_no m s W hm fun z => hs z.2) (fun W => reject_core m s true W (by omega) (by omega) 0 0 false (fun W => readerOf_no s W hm hs) (.inr ⟨rfl, rfl, rfl, rfl⟩))
    · exact lawRej_core n s w hl 0 0 false (fun W => specReject_no n s W hm fun z => h z.1) (fun W => reject_no n s W h)
  · unfold maxLen at hm
    go_enter Try.func9, Try.ntmps9
    go_wp2
    go_ret
    exact ⟨rfl, Below.refl _ _⟩
end Go.Proofs.Ytamedggnkbhgeaa
