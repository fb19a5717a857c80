/- Decimal texts: impl.ReadDecimal, spec.l01Value, and the law FnExactReadDecimal. -/
import Derived.Test.YtpnifnpbolieoabDoorGreat
namespace Go.Proofs.YtpnifnpbolieoabDoor
open Go.RowKit Go.PlainAid
set_option maxHeartbeats 1600000

def Val (n : Int) : Prop := -1000000000000000 ≤ n ∧ n ≤ 1000000000000000
theorem Val.part {n : Int} (h : Val n) : Part n := ⟨by have := h.1; omega, by have := h.2; omega⟩
theorem Val.i64 {n : Int} (h : Val n) : I64 n := ⟨by have := h.1; omega, by have := h.2; omega⟩
theorem Part.i64 {n : Int} (h : Part n) : I64 n := ⟨by have := h.1; omega, by have := h.2; omega⟩

theorem value_yes (n : Int) (w : World) (hn : Val n) :
    Calls Tryd.prog 49 #[.string (decS n)] w fun e w' => e = .returned (.tuple #[.int .i64 n, .bool true]) ∧ Below w.heap.size w w' := by
  have HG : Hid (Calls Tryd.prog 84 #[.string (decS n)] w fun e w' => e = .returned (.tuple #[.int .i64 n, .bool true]) ∧ Below w.heap.size w w') := great_yes n w hn.part
  have HI : Hid (∀ W : World, Calls Tryd.prog 71 #[.int .i64 n, .int .i64 (-1000000000000000), .int .i64 1000000000000000] W fun e w' => e = .returned (.bool true) ∧ W = w') := fun W => l00In_yes _ _ _ _ hn.1 hn.2
  obtain ⟨t, hT⟩ : ∃ t, decS n = t := ⟨_, rfl⟩
  rw [hT] at HG ⊢
  clear hn hT
  go_enter Tryd.func49, Tryd.ntmps49
  go_wp2_with fail
  refine (HG.out).mono ?_
  rintro e w1 ⟨rfl, hb⟩
  have HB := Lib.hid hb
  clear hb HG
  go_wp2_with (go_at_call 71; with_reducible refine (HI.out _).mono ?_; rintro e w2 ⟨rfl, rfl⟩)
  go_ret2
  exact ⟨rfl, HB.out⟩
theorem value_no (s : ByteArray) (w : World) (hs : s.size ≤ 1048576) (h : ∀ n, Val n → s ≠ decS n) :
    Calls Tryd.prog 49 #[.string s] w fun e w' => e = .returned (.tuple #[.int .i64 0, .bool false]) ∧ Below w.heap.size w w' := by
  by_cases hp : ∃ n, Part n ∧ s = decS n
  · obtain ⟨n, hn, rfl⟩ := hp
    have hv : ¬ Val n := fun x => h n x rfl
    have HG : Hid (Calls Tryd.prog 84 #[.string (decS n)] w fun e w' => e = .returned (.tuple #[.int .i64 n, .bool true]) ∧ Below w.heap.size w w') := great_yes n w hn
    have HI : Hid (∀ W : World, Calls Tryd.prog 71 #[.int .i64 n, .int .i64 (-1000000000000000), .int .i64 1000000000000000] W fun e w' => e = .returned (.bool false) ∧ W = w') := fun W => l00In_no _ _ _ _ hv
    obtain ⟨t, hT⟩ : ∃ t, decS n = t := ⟨_, rfl⟩
    rw [hT] at HG ⊢
    clear hn hT h hv
    go_enter Tryd.func49, Tryd.ntmps49
    go_wp2_with fail
    refine (HG.out).mono ?_
    rintro e w1 ⟨rfl, hb⟩
    have HB := Lib.hid hb
    clear hb HG
    go_wp2_with (go_at_call 71; with_reducible refine (HI.out _).mono ?_; rintro e w2 ⟨rfl, rfl⟩)
    go_ret2
    exact ⟨rfl, HB.out⟩
  · have HG : Hid (Calls Tryd.prog 84 #[.string s] w fun e w' => ∃ y, e = .returned (.tuple #[.int .i64 y, .bool false]) ∧ Below w.heap.size w w') := great_no s w hs (fun n hn e => hp ⟨n, hn, e⟩)
    clear hp h
    go_enter Tryd.func49, Tryd.ntmps49
    go_wp2_with fail
    refine (HG.out).mono ?_
    rintro e w1 ⟨y, rfl, hb⟩
    have HB := Lib.hid hb
    clear hb HG
    go_wp2
    go_ret2
    exact ⟨rfl, HB.out⟩

theorem read_yes (n : Int) (w : World) (hn : Val n) (ht : Tabs w) :
    Calls Tryd.prog 15 #[.string (decS n)] w fun e w' => e = .returned (.tuple #[.int .i64 n, .bool true]) ∧ Below w.heap.size w w' := by
  have HG : Hid (Calls Tryd.prog 50 #[.string (decS n)] w fun e w' => e = .returned (.tuple #[.int .i64 n, .bool true]) ∧ Below w.heap.size w w') := whole_yes n w hn.i64 ht
  have HI : Hid (∀ W : World, Calls Tryd.prog 81 #[.int .i64 n, .int .i64 (-1000000000000000), .int .i64 1000000000000000] W fun e w' => e = .returned (.bool true) ∧ W = w') := fun W => btw64_yes _ _ _ _ hn.1 hn.2
  obtain ⟨t, hT⟩ : ∃ t, decS n = t := ⟨_, rfl⟩
  rw [hT] at HG ⊢
  clear hn hT ht
  go_enter Tryd.func15, Tryd.ntmps15
  go_wp2_with fail
  refine (HG.out).mono ?_
  rintro e w1 ⟨rfl, hb⟩
  have HB := Lib.hid hb
  clear hb HG
  go_wp2_with (first | (go_at_call 81; with_reducible refine (HI.out _).mono ?_; rintro e w2 ⟨rfl, rfl⟩) | go_in)
  go_ret2
  exact ⟨rfl, HB.out⟩
theorem read_no (s : ByteArray) (w : World) (hs : s.size ≤ 1048576) (ht : Tabs w) (h : ∀ n, Val n → s ≠ decS n) :
    Calls Tryd.prog 15 #[.string s] w fun e w' => e = .returned (.tuple #[.int .i64 0, .bool false]) ∧ Below w.heap.size w w' := by
  by_cases hp : ∃ n, I64 n ∧ s = decS n
  · obtain ⟨n, hn, rfl⟩ := hp
    have hv : ¬ Val n := fun x => h n x rfl
    have HG : Hid (Calls Tryd.prog 50 #[.string (decS n)] w fun e w' => e = .returned (.tuple #[.int .i64 n, .bool true]) ∧ Below w.heap.size w w') := whole_yes n w hn ht
    have HI : Hid (∀ W : World, Calls Tryd.prog 81 #[.int .i64 n, .int .i64 (-1000000000000000), .int .i64 1000000000000000] W fun e w' => e = .returned (.bool false) ∧ W = w') := fun W => btw64_no _ _ _ _ hv
    obtain ⟨t, hT⟩ : ∃ t, decS n = t := ⟨_, rfl⟩
    rw [hT] at HG ⊢
    clear hn hT h hv ht
    go_enter Tryd.func15, Tryd.ntmps15
    go_wp2_with fail
    refine (HG.out).mono ?_
    rintro e w1 ⟨rfl, hb⟩
    have HB := Lib.hid hb
    clear hb HG
    go_wp2_with (first | (go_at_call 81; with_reducible refine (HI.out _).mono ?_; rintro e w2 ⟨rfl, rfl⟩) | go_in)
    go_ret2
    exact ⟨rfl, HB.out⟩
  · have HG : Hid (Calls Tryd.prog 50 #[.string s] w fun e w' => e = .returned (.tuple #[.int .i64 0, .bool false]) ∧ Below w.heap.size w w') := whole_no s w hs ht (fun n hn e => hp ⟨n, hn, e⟩)
    clear hp h ht
    go_enter Tryd.func15, Tryd.ntmps15
    go_wp2_with fail
    refine (HG.out).mono ?_
    rintro e w1 ⟨rfl, hb⟩
    have HB := Lib.hid hb
    clear hb HG
    go_wp2
    go_ret2
    exact ⟨rfl, HB.out⟩

def GivesNum (f : FuncId) (s : ByteArray) (n : Int) (ok : Bool) (w : World) : Prop := Calls Tryd.prog f #[.string s] w fun e w' => e = .returned (.tuple #[.int .i64 n, .bool ok]) ∧ Below w.heap.size w w'
theorem lawRead_core (s : ByteArray) (n : Int) (ok : Bool) (w : World) (hs : s.size ≤ 1048576) (HS : Hid (∀ W : World, Below w.heap.size w W → GivesNum 49 s n ok W)) (HI : Hid (∀ W : World, Below w.heap.size w W → GivesNum 15 s n ok W)) :
    Calls Tryd.prog 4 #[.string s] w fun e w' => e = .returned (.bool true) ∧ Below w.heap.size w w' := by
  have hne : (n != n) = false := by simp
  have hne2 : (ok != ok) = false := by simp
  have t0 : decide ((1048576 : Int) < (s.size : Int)) = false := by simp; omega
  go_enter Tryd.func4, Tryd.ntmps4
  go_wp2_with (first | (go_at_call 49; refine (HS.out w (Below.refl _ _)).mono ?_; rintro e w1 ⟨rfl, hb⟩) | (go_at_call 14; go_in))
  have HB := Lib.hid hb
  clear hb
  refine (HI.out _ HB.out).mono ?_
  rintro e w2 ⟨rfl, hb⟩
  have HB2 := Lib.hid (HB.out.trans (hb.mono HB.out.size))
  clear hb HB
  go_wp2
  go_ret
  exact ⟨rfl, HB2.out⟩
theorem lawRead (s : ByteArray) (w : World) (hm : s.size ≤ maxLen) (ht : Tabs w) :
    Calls Tryd.prog 4 #[.string s] w fun e w' => e = .returned (.bool true) ∧ Below w.heap.size w w' := by
  by_cases hs : s.size ≤ 1048576
  · by_cases h : ∃ n, Val n ∧ s = decS n
    · obtain ⟨n, hn, rfl⟩ := h
      exact lawRead_core _ n true w hs (fun W _ => value_yes n W hn) (fun W hW => read_yes n W hn (ht.on hW))
    · have h2 : ∀ n, Val n → s ≠ decS n := fun n hn e => h ⟨n, hn, e⟩
      exact lawRead_core s 0 false w hs (fun W _ => value_no s W hs h2) (fun W hW => read_no s W hs (ht.on hW) h2)
  · have t0 : decide ((1048576 : Int) < (s.size : Int)) = true := by simp; omega
    clear ht
    go_enter Tryd.func4, Tryd.ntmps4
    go_wp2
    go_ret
    exact ⟨rfl, Below.refl _ _⟩
end Go.Proofs.YtpnifnpbolieoabDoor
