/- Decimal texts read: impl.readWhole by the library's contract. -/
import Derived.Test.YtpnifnpbolieoabDoorBtw
import Derived.Test.YtpnifnpbolieoabDoorLawDec
import Derived.Lib.ParseIntBTie
import Derived.Lib.SmallJoins
namespace Go.Proofs.YtpnifnpbolieoabDoor
open Go.RowKit Go.PlainAid
set_option maxHeartbeats 1600000

/-- what reading decimals wants of the library's variables -/
def Tabs (w : World) : Prop := Pow10 w.heap.size w ∧ (∃ t p, w.cell? ⟨2, 0, none⟩ = some (.iface t p)) ∧ ∃ t p, w.cell? ⟨3, 0, none⟩ = some (.iface t p)
theorem Tabs.on {w w1 : World} (h : Tabs w) (hb : Below w.heap.size w w1) : Tabs w1 := by
  obtain ⟨h1, ⟨t2, p2, h2⟩, t3, p3, h3⟩ := h
  refine ⟨fun w2 hb2 => h1 w2 (hb.trans (hb2.mono hb.size)), ⟨t2, p2, ?_⟩, t3, p3, ?_⟩
  · exact (hb.cell (p := ⟨2, 0, none⟩) (World.block_lt_of_cell? w _ h2)).trans h2
  · exact (hb.cell (p := ⟨3, 0, none⟩) (World.block_lt_of_cell? w _ h3)).trans h3

/-- the text of a number -/
def decS (n : Int) : ByteArray := ⟨(Lib.itoa n).toArray⟩
theorem decS_list (n : Int) : (decS n).data.toList = Lib.itoa n := rfl
def I64 (n : Int) : Prop := -9223372036854775808 ≤ n ∧ n ≤ 9223372036854775807
theorem ne_str {a b : ByteArray} (h : a ≠ b) : (a.toList == b.toList) = false := by
  rw [beq_eq_false_iff_ne]
  intro e
  apply h
  have e2 : a.data.toList = b.data.toList := by rwa [ByteArray.toList_eq, ByteArray.toList_eq] at e
  exact ByteArray.ext (Array.toList_inj.1 e2)

theorem dec_call (n : Int) {w W : World} (hn : I64 n) (ht : Tabs w) (hB : Below w.heap.size w W) :
    Calls Tryd.prog 13 #[.int .i64 n] W fun e w' => e = .returned (.string (decS n)) ∧ Below W.heap.size W w' :=
  implDec_any n W hn.1 hn.2 (ht.on hB).1

theorem whole_yes (n : Int) (w : World) (hn : I64 n) (ht : Tabs w) :
    Calls Tryd.prog 50 #[.string (decS n)] w fun e w' => e = .returned (.tuple #[.int .i64 n, .bool true]) ∧ Below w.heap.size w w' := by
  have hl := itoa_len n hn.1 hn.2
  have HP : Hid (Calls Tryd.prog 85 #[.string (decS n), .int .i64 10, .int .i64 64] w fun e w' => e = .returned (.tuple #[.int .i64 n, .nilIface]) ∧ Below w.heap.size w w') := by
    refine (Tryd.strconv_ParseInt_10_at64_ok (decS n) (by show (Lib.itoa n).toArray.size ≤ _; simp; omega) n (by rw [decS_list]; exact parse_itoa n hn.1 hn.2) w).mono ?_
    rintro e w' ⟨he, hw | ⟨t, hw⟩⟩
    · exact ⟨he, hw ▸ Below.refl _ _⟩
    · exact ⟨he, hw ▸ Go.Joins.below_bytesWorld _ _ _ _ (Nat.le_refl _)⟩
  have HD : Hid (∀ W, Below w.heap.size w W → Calls Tryd.prog 13 #[.int .i64 n] W fun e w' => e = .returned (.string (decS n)) ∧ Below W.heap.size W w') := fun W hW => dec_call n hn ht hW
  have hne : ((decS n).toList == (decS n).toList) = true := by simp
  obtain ⟨t, hT⟩ : ∃ t, decS n = t := ⟨_, rfl⟩
  rw [hT] at HP HD hne ⊢
  clear ht hn hl hT
  go_enter Tryd.func50, Tryd.ntmps50
  go_wp2_with fail
  refine (HP.out).mono ?_
  rintro e w1 ⟨rfl, hb⟩
  have HB := Lib.hid hb
  clear hb HP
  go_wp2_with (go_at_call 13; with_reducible refine (HD.out _ HB.out).mono ?_; rintro e w2 ⟨rfl, hb⟩)
  have HB2 := Lib.hid (HB.out.trans (hb.mono HB.out.size))
  clear hb HB HD
  go_ret2
  exact ⟨rfl, HB2.out⟩
theorem whole_no (s : ByteArray) (w : World) (hs : s.size ≤ 1048576) (ht : Tabs w) (h : ∀ n, I64 n → s ≠ decS n) :
    Calls Tryd.prog 50 #[.string s] w fun e w' => e = .returned (.tuple #[.int .i64 0, .bool false]) ∧ Below w.heap.size w w' := by
  cases hp : Lib.parseIntB 64 s.data.toList with
  | ok v =>
    have hv := Lib.parseIntB_bounds hp
    have e63 : ((2 ^ (64 - 1) : Nat) : Int) = 9223372036854775808 := by decide
    rw [e63] at hv
    have hv2 : I64 v := ⟨hv.1, by omega⟩
    have HP : Hid (Calls Tryd.prog 85 #[.string s, .int .i64 10, .int .i64 64] w fun e w' => e = .returned (.tuple #[.int .i64 v, .nilIface]) ∧ Below w.heap.size w w') := by
      refine (Tryd.strconv_ParseInt_10_at64_ok s (by omega) v hp w).mono ?_
      rintro e w' ⟨he, hw | ⟨t, hw⟩⟩
      · exact ⟨he, hw ▸ Below.refl _ _⟩
      · exact ⟨he, hw ▸ Go.Joins.below_bytesWorld _ _ _ _ (Nat.le_refl _)⟩
    have HD : Hid (∀ W, Below w.heap.size w W → Calls Tryd.prog 13 #[.int .i64 v] W fun e w' => e = .returned (.string (decS v)) ∧ Below W.heap.size W w') := fun W hW => dec_call v hv2 ht hW
    have hne : ((decS v).toList == s.toList) = false := ne_str (Ne.symm (h v hv2))
    obtain ⟨t, hT⟩ : ∃ t, decS v = t := ⟨_, rfl⟩
    rw [hT] at HD hne
    clear ht h hp hv e63 hv2 hT
    go_enter Tryd.func50, Tryd.ntmps50
    go_wp2_with fail
    refine (HP.out).mono ?_
    rintro e w1 ⟨rfl, hb⟩
    have HB := Lib.hid hb
    clear hb HP
    go_wp2_with (go_at_call 13; with_reducible refine (HD.out _ HB.out).mono ?_; rintro e w2 ⟨rfl, hb⟩)
    have HB2 := Lib.hid (HB.out.trans (hb.mono HB.out.size))
    clear hb HB HD
    go_ret2
    exact ⟨rfl, HB2.out⟩
  | «syntax» =>
    obtain ⟨_, ⟨t2, p2, h2⟩, _⟩ := ht
    have HP : Hid (Calls Tryd.prog 85 #[.string s, .int .i64 10, .int .i64 64] w fun e w' => ∃ (v : Int) (N : Nat) (t : TypeId), e = .returned (.tuple #[.int .i64 v, .iface t (.pointer (some ⟨N, 0, none⟩))]) ∧ Below w.heap.size w w') := by
      refine (Tryd.strconv_ParseInt_10_at64_syntax s (by omega) hp _ w h2 (.inr ⟨_, _, rfl⟩)).mono ?_
      rintro e w' ⟨N, he, _, _, hb⟩
      exact ⟨_, N, _, he, hb⟩
    clear h hp h2
    go_enter Tryd.func50, Tryd.ntmps50
    go_wp2_with fail
    refine (HP.out).mono ?_
    rintro e w1 ⟨v, N, t, rfl, hb⟩
    have HB := Lib.hid hb
    clear hb HP
    go_wp2
    go_ret2
    exact ⟨rfl, HB.out⟩
  | range =>
    obtain ⟨_, _, t2, p2, h2⟩ := ht
    have HP : Hid (Calls Tryd.prog 85 #[.string s, .int .i64 10, .int .i64 64] w fun e w' => ∃ (v : Int) (N : Nat) (t : TypeId), e = .returned (.tuple #[.int .i64 v, .iface t (.pointer (some ⟨N, 0, none⟩))]) ∧ Below w.heap.size w w') := by
      refine (Tryd.strconv_ParseInt_10_at64_range s (by omega) hp _ w h2 (.inr ⟨_, _, rfl⟩)).mono ?_
      rintro e w' ⟨N, he, _, _, hb⟩
      exact ⟨_, N, _, he, hb⟩
    clear h hp h2
    go_enter Tryd.func50, Tryd.ntmps50
    go_wp2_with fail
    refine (HP.out).mono ?_
    rintro e w1 ⟨v, N, t, rfl, hb⟩
    have HB := Lib.hid hb
    clear hb HP
    go_wp2
    go_ret2
    exact ⟨rfl, HB.out⟩
end Go.Proofs.YtpnifnpbolieoabDoor
