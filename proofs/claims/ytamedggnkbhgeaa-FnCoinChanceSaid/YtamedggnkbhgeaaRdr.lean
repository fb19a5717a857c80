/- The reader of bits: impl.readerOf, (*impl.bitReader).next, number, drawn. -/
import Derived.Test.YtamedggnkbhgeaaNumber
import Derived.Test.YtamedggnkbhgeaaGT
import Derived.Test.YtamedggnkbhgeaaSrc
namespace Go.Proofs.Ytamedggnkbhgeaa
open Go.RowKit Go.PlainAid
set_option maxHeartbeats 800000

/-- a reader in block b: its text, how many bits are used, whether it has failed -/
def Rd (w : World) (b : Nat) (s : ByteArray) (u : Nat) (f : Bool) : Prop :=
  (w.cell? ⟨b, 0, none⟩ = some (.string s) ∧ w.cell? ⟨b, 1, none⟩ = some (.int .i64 u) ∧ w.cell? ⟨b, 2, none⟩ = some (.bool f)) ∧ w.frozen? ⟨b, 1, none⟩ = false ∧ w.frozen? ⟨b, 2, none⟩ = false
theorem Rd.lt {w : World} {b : Nat} {s : ByteArray} {u : Nat} {f : Bool} (h : Rd w b s u f) : b < w.heap.size := World.block_lt_of_cell? w _ h.1.1
theorem Rd.drewN {w : World} {b : Nat} {s : ByteArray} {u : Nat} {f : Bool} (h : Rd w b s u f) (m : Nat) : Rd (w.drewN m) b s u f := h
theorem Rd.below {V V1 : World} {b n : Nat} {s : ByteArray} {u : Nat} {f : Bool} (h : Rd V b s u f) (hb : Below n V V1) (hn : b < n) : Rd V1 b s u f := by
  obtain ⟨⟨h0, h1, h2⟩, f1, f2⟩ := h
  exact ⟨⟨(hb.cell (p := ⟨b, 0, none⟩) hn).trans h0, (hb.cell (p := ⟨b, 1, none⟩) hn).trans h1, (hb.cell (p := ⟨b, 2, none⟩) hn).trans h2⟩, (hb.frozen (p := ⟨b, 1, none⟩) hn).trans f1, (hb.frozen (p := ⟨b, 2, none⟩) hn).trans f2⟩
theorem Rd.far {V V1 : World} {b : Nat} {s : ByteArray} {u : Nat} {f : Bool} (h : Rd V b s u f) (hb : Below V.heap.size V V1) : Rd V1 b s u f := h.below hb h.lt
theorem Rd.used {w : World} {b : Nat} {s : ByteArray} {u : Nat} {f : Bool} (h : Rd w b s u f) (k : Nat) (x : Int) (hx : x = (k : Int)) : Rd (w.setCell ⟨b, 1, none⟩ (.int .i64 x)) b s k f := by
  subst hx
  obtain ⟨⟨h0, h1, h2⟩, f1, f2⟩ := h
  exact ⟨⟨(cell_ne (by omega)).trans h0, World.cell?_setCell_same w _ _ h1, (cell_ne (by omega)).trans h2⟩, by rw [World.frozen?_setCell]; exact f1, by rw [World.frozen?_setCell]; exact f2⟩
theorem Rd.fail {w : World} {b : Nat} {s : ByteArray} {u : Nat} {f : Bool} (h : Rd w b s u f) (g : Bool) : Rd (w.setCell ⟨b, 2, none⟩ (.bool g)) b s u g := by
  obtain ⟨⟨h0, h1, h2⟩, f1, f2⟩ := h
  exact ⟨⟨(cell_ne (by omega)).trans h0, (cell_ne (by omega)).trans h1, World.cell?_setCell_same w _ _ h2⟩, by rw [World.frozen?_setCell]; exact f1, by rw [World.frozen?_setCell]; exact f2⟩
theorem bit_in {s : ByteArray} (h : AllIn 48 49 s) {k : Nat} (hk : k < s.size) : 48 ≤ bt s k ∧ bt s k ≤ 49 := by
  have := h k hk
  rwa [get_bt s k hk] at this

theorem rdNext_yes (b : Nat) (s : ByteArray) (u : Nat) (w : World) (h : Rd w b s u false) (hs : BitsP s) (hu : u < s.size) :
    Calls Try.prog 48 #[.pointer (some ⟨b, 0, none⟩)] w fun e w' => e = .returned (.int .i64 (bt s u - 48)) ∧ Rd w' b s (u + 1) false ∧ w.grownBy w' (some b) := by
  have HR := Lib.hid h
  have h4 := hs.len
  have hb := hs.all u hu
  have HE : Hid (((s[u]'hu).toNat : Int) = bt s u) := get_bt s u hu
  obtain ⟨⟨h0, h1, h2⟩, f1, f2⟩ := h
  clear hs
  go_enter Try.func48, Try.ntmps48
  go_wp2
  go_quiet (fail)
  go_wp2
  go_quiet (fail)
  go_wp2
  go_ret
  rw [← HE.out]
  exact ⟨rfl, (((HR.out.drewN _).used (u + 1) _ (by omega)).drewN _), grow_drewN (grow_set (grow_drewN (World.grownBy.refl _ _) _) _ _) _⟩
theorem rdNext_no (b : Nat) (s : ByteArray) (u : Nat) (f : Bool) (w : World) (h : Rd w b s u f) (hu : f = true ∨ u = s.size) :
    Calls Try.prog 48 #[.pointer (some ⟨b, 0, none⟩)] w fun e w' => e = .returned (.int .i64 0) ∧ Rd w' b s u true ∧ w.grownBy w' (some b) := by
  have HR := Lib.hid h
  obtain ⟨⟨h0, h1, h2⟩, f1, f2⟩ := h
  cases f
  · obtain rfl : u = s.size := by simpa using hu
    clear hu
    go_enter Try.func48, Try.ntmps48
    go_wp2
    go_quiet (fail)
    go_wp2
    go_ret
    exact ⟨rfl, (HR.out.drewN _).fail true, grow_set (grow_drewN (World.grownBy.refl _ _) _) _ _⟩
  · clear hu
    go_enter Try.func48, Try.ntmps48
    go_wp2
    go_quiet (fail)
    go_wp2
    go_ret
    exact ⟨rfl, (HR.out.drewN _).fail true, grow_set (grow_drewN (World.grownBy.refl _ _) _) _ _⟩
theorem drawn_yes (b : Nat) (s : ByteArray) (u : Nat) (v : Int) (w : World) (h : Rd w b s u false) :
    Calls Try.prog 47 #[.pointer (some ⟨b, 0, none⟩), .int .i64 v] w fun e w' => e = .returned (.tuple #[.int .i64 v, .int .i64 u, .bool true]) ∧ Below w.heap.size w w' := by
  obtain ⟨⟨h0, h1, h2⟩, f1, f2⟩ := h
  go_enter Try.func47, Try.ntmps47
  go_wp2
  go_quiet (fail)
  go_wp2
  go_returns
  exact ⟨rfl, below_drewN (Below.refl _ _) _⟩
theorem drawn_no (b : Nat) (s : ByteArray) (u : Nat) (v : Int) (w : World) (h : Rd w b s u true) :
    Calls Try.prog 47 #[.pointer (some ⟨b, 0, none⟩), .int .i64 v] w fun e w' => e = .returned (.tuple #[.int .i64 0, .int .i64 0, .bool false]) ∧ Below w.heap.size w w' := by
  obtain ⟨⟨h0, h1, h2⟩, f1, f2⟩ := h
  go_enter Try.func47, Try.ntmps47
  go_wp2
  go_returns
  exact ⟨rfl, Below.refl _ _⟩
/-- what a new reader is -/
def NewRd (s : ByteArray) (f : Bool) (w : World) (e : Ending) (w' : World) : Prop := ∃ b : Nat, e = .returned (.pointer (some ⟨b, 0, none⟩)) ∧ w.heap.size ≤ b ∧ Rd w' b s 0 f ∧ Below w.heap.size w w'
theorem readerOf_core (s : ByteArray) (ok : Bool) (w : World) (H : Hid (∀ W : World, Calls Try.prog 61 #[.string s] W fun e w' => e = .returned (.bool ok) ∧ Below W.heap.size W w')) :
    Calls Try.prog 44 #[.string s] w (NewRd s (!ok) w) := by
  go_enter Try.func44, Try.ntmps44
  go_wp2_with fail
  refine (H.out _).mono ?_
  rintro e w1 ⟨rfl, hb⟩
  have HB := Lib.hid hb
  clear hb
  go_wp2
  go_ret
  exact ⟨_, rfl, HB.out.size, ⟨⟨by simp [go_sem], by simp [go_sem], by simp [go_sem]⟩, by simp [go_sem], by simp [go_sem]⟩, HB.out.alloc HB.out.size _⟩
theorem readerOf_yes (s : ByteArray) (w : World) (h : BitsP s) : Calls Try.prog 44 #[.string s] w (NewRd s false w) := readerOf_core s true w fun W => isBits_yes s W h
theorem readerOf_no (s : ByteArray) (w : World) (hm : s.size ≤ maxLen) (h : ¬ BitsP s) : Calls Try.prog 44 #[.string s] w (NewRd s true w) := readerOf_core s false w fun W => isBits_no s W hm h
/-- how many bits a reader may still read, and one more while it has not failed -/
def rdLeft (b n : Nat) (w : World) : Nat := match w.cell? ⟨b, 2, none⟩ with
  | some (.bool true) => 0
  | _ => n + 1 - (match w.cell? ⟨b, 1, none⟩ with
    | some v => (intOf v).toNat
    | none => 0)
theorem left_ok {w : World} {b : Nat} {s : ByteArray} {u : Nat} (h : Rd w b s u false) (n : Nat) : rdLeft b n w = n + 1 - u := by
  unfold rdLeft
  rw [h.1.2.1, h.1.2.2]
  simp [intOf]
theorem left_no {w : World} {b : Nat} {s : ByteArray} {u : Nat} (h : Rd w b s u true) (n : Nat) : rdLeft b n w = 0 := by
  unfold rdLeft
  rw [h.1.2.2]
end Go.Proofs.Ytamedggnkbhgeaa
