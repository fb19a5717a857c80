/- The source of choices of the laws: spec.l00Src (next, pick, one), spec.l00From, laws.b10At, laws.b10Long. -/
import Derived.Test.YtmnnpkmjamhmcabRows
import Derived.WalkKit
import Derived.WalkSpells
import Derived.WalkLawsBesides
import Derived.ProofKit
import Derived.Handy
import Derived.PlainAid
import Derived.Lib.Hide
import Derived.OpenShut
import Derived.WalkSmall
import Derived.Deep.QuietTactic
import Derived.BigQuiet
namespace Go.Proofs.Ytmnnpkmjamhmcab
open Go.RowKit Go.PlainAid
set_option maxHeartbeats 400000

/-- bytes that came in -/
def Code (w : World) (base : Nat) (a : Option Addr) (len : Nat) : Prop :=
  len = 0 ∨ ∃ b off, a = some ⟨b, off, none⟩ ∧ b < base ∧ ∀ i, i < len → ∃ x : Int, 0 ≤ x ∧ x ≤ 255 ∧ w.cell? ⟨b, off + i, none⟩ = some (.int .u8 x)

/-- a source in block b, from which at most n choices have been read -/
def Src (base : Nat) (w : World) (b : Nat) (a : Option Addr) (len cap n : Nat) : Prop :=
  Code w base a len ∧ base ≤ b ∧ ∃ k : Nat, ∃ s : Int, k ≤ n ∧ 0 ≤ s ∧ s ≤ 18446744073709551615 ∧ w.cell? ⟨b, 0, none⟩ = some (.slice a len cap) ∧ w.cell? ⟨b, 1, none⟩ = some (.int .i64 k) ∧ w.cell? ⟨b, 2, none⟩ = some (.int .u64 s) ∧
    w.frozen? ⟨b, 1, none⟩ = false ∧ w.frozen? ⟨b, 2, none⟩ = false

/-- what a choice leaves -/
def NextPost (base b : Nat) (a : Option Addr) (len cap n : Nat) (P : Int → Prop) (w : World) (e : Ending) (w' : World) : Prop :=
  ∃ v : Int, e = .returned (.int .i64 v) ∧ P v ∧ Src base w' b a len cap n ∧ w.grownBy w' (some b)

theorem Code.set {w : World} {base : Nat} {a : Option Addr} {len b j : Nat} (h : Code w base a len) (hb : base ≤ b) (v : Value) : Code (w.setCell ⟨b, j, none⟩ v) base a len := by
  rcases h with h | ⟨c, off, ha, hc, hx⟩
  · exact .inl h
  · refine .inr ⟨c, off, ha, hc, fun i hi => ?_⟩
    obtain ⟨x, x0, x1, hcell⟩ := hx i hi
    refine ⟨x, x0, x1, ?_⟩
    rw [World.cell?_setCell_other w _ _ _ (fun y => by have := congrArg Addr.block y; simp at this; omega)]
    exact hcell
theorem Code.below {w w1 : World} {base : Nat} {a : Option Addr} {len : Nat} (h : Code w base a len) (hb : Below base w w1) : Code w1 base a len := by
  rcases h with h | ⟨c, off, ha, hc, hx⟩
  · exact .inl h
  · refine .inr ⟨c, off, ha, hc, fun i hi => ?_⟩
    obtain ⟨x, x0, x1, hcell⟩ := hx i hi
    exact ⟨x, x0, x1, (hb.cell (p := ⟨c, off + i, none⟩) hc).trans hcell⟩
theorem Code.drewN {w : World} {base : Nat} {a : Option Addr} {len : Nat} (h : Code w base a len) (n : Nat) : Code (w.drewN n) base a len := h

theorem cell_ne {w : World} {b i j : Nat} {v : Value} (h : i ≠ j) : (w.setCell ⟨b, i, none⟩ v).cell? ⟨b, j, none⟩ = w.cell? ⟨b, j, none⟩ :=
  World.cell?_setCell_other w _ _ _ (fun y => h (by have := congrArg Addr.off y; simpa using this))

theorem Src.drewN {base : Nat} {w : World} {b : Nat} {a : Option Addr} {len cap n : Nat} (h : Src base w b a len cap n) (m : Nat) : Src base (w.drewN m) b a len cap n := h
theorem Src.at_ {base : Nat} {w : World} {b : Nat} {a : Option Addr} {len cap n : Nat} (h : Src base w b a len cap n) (k : Nat) (hk : k ≤ n + 1) (x : Int) (hx : x = (k : Int)) : Src base (w.setCell ⟨b, 1, none⟩ (.int .i64 x)) b a len cap (n + 1) := by
  subst hx
  obtain ⟨hC, hb, k0, s, _, s0, s1, c0, c1, c2, f1, f2⟩ := h
  exact ⟨hC.set hb _, hb, k, s, hk, s0, s1, (cell_ne (by omega)).trans c0, World.cell?_setCell_same w _ _ c1, (cell_ne (by omega)).trans c2, by rw [World.frozen?_setCell]; exact f1, by rw [World.frozen?_setCell]; exact f2⟩
theorem Src.seed {base : Nat} {w : World} {b : Nat} {a : Option Addr} {len cap n : Nat} (h : Src base w b a len cap n) (s' : Int) (h0 : 0 ≤ s') (h1 : s' ≤ 18446744073709551615) : Src base (w.setCell ⟨b, 2, none⟩ (.int .u64 s')) b a len cap n := by
  obtain ⟨hC, hb, k0, s, hk, s0, s1, c0, c1, c2, f1, f2⟩ := h
  exact ⟨hC.set hb _, hb, k0, s', hk, h0, h1, (cell_ne (by omega)).trans c0, (cell_ne (by omega)).trans c1, World.cell?_setCell_same w _ _ c2, by rw [World.frozen?_setCell]; exact f1, by rw [World.frozen?_setCell]; exact f2⟩

theorem grow_set {a w : World} {g : Nat} (h : a.grownBy w (some g)) (j : Nat) (u : Value) : a.grownBy (w.setCell ⟨g, j, none⟩ u) (some g) :=
  ⟨h.os, h.tape, h.output, by simpa [World.setCell] using h.size, fun i hi hne => (Below.heap_setCell w ⟨g, j, none⟩ u i (by
    rintro rfl
    exact hne rfl)).trans (h.block i hi hne)⟩
theorem grow_drewN {a w : World} {row : Option Nat} (h : a.grownBy w row) (n : Nat) : a.grownBy (w.drewN n) row := ⟨h.os, h.tape, h.output, h.size, h.block⟩

theorem and255 (x : Int) : bits .and .u64 x 255 = x % 256 := by
  have h1 : (BitVec.ofInt 64 255).toNat = 2 ^ 8 - 1 := by decide
  have key : (BitVec.ofInt 64 x &&& BitVec.ofInt 64 255).toNat = (x % ((2 ^ 64 : Nat) : Int)).toNat % 2 ^ 8 := by
    rw [BitVec.toNat_and, BitVec.toNat_ofInt, h1, Nat.and_two_pow_sub_one_eq_mod]
  show IntKind.u64.wrap ((BitVec.ofInt 64 x &&& BitVec.ofInt 64 255).toNat : Nat) = x % 256
  rw [key, IntKind.wrap_u64]
  omega
theorem byte_in (x : Int) : 0 ≤ wrap64 (bits .and .u64 x 255) ∧ wrap64 (bits .and .u64 x 255) ≤ 255 := by
  rw [and255, IntWalk.wrap64_in _ (by omega)]
  omega
theorem u64_in (x : Int) : 0 ≤ IntKind.u64.wrap x ∧ IntKind.u64.wrap x ≤ 18446744073709551615 := by
  rw [IntKind.wrap_u64]; omega

theorem next_any (base b : Nat) (a : Option Addr) (len cap n : Nat) (w : World) (h : Src base w b a len cap n) (hn : n ≤ 1000000000000) (hl : len ≤ 1048576) :
    Calls Try.prog 106 #[.pointer (some ⟨b, 0, none⟩)] w (NextPost base b a len cap (n + 1) (fun v => 0 ≤ v ∧ v ≤ 255) w) := by
  have HS := Lib.hid h
  obtain ⟨hC, hb, k, s, hk, s0, s1, c0, c1, c2, f1, f2⟩ := h
  by_cases hlt : k < len
  · have hlt2 : (k : Int) < (len : Int) := by omega
    rcases hC with ⟨_, h0⟩ | ⟨c, off, rfl, hcb, hx⟩
    · omega
    · obtain ⟨x, x0, x1, hcell⟩ := hx k hlt
      clear hx
      go_enter Try.func106, Try.ntmps106
      go_wp2
      go_quiet (fail)
      go_wp2
      go_quiet (fail)
      go_wp2
      go_quiet (fail)
      go_wp2
      all_goals
        go_ret
        exact ⟨_, rfl, ⟨x0, x1⟩, (((HS.out.drewN _).at_ (k + 1) (by omega) _ (by omega)).seed _ (u64_in _).1 (u64_in _).2).drewN _, grow_drewN (grow_set (grow_set (grow_drewN (World.grownBy.refl _ _) _) _ _) _ _) _⟩
  · have hlt2 : ¬ (k : Int) < (len : Int) := by omega
    clear hC
    go_enter Try.func106, Try.ntmps106
    go_wp2
    go_quiet (fail)
    go_wp2
    go_quiet (fail)
    go_wp2
    go_ret
    exact ⟨_, rfl, byte_in _, (((HS.out.drewN _).at_ (k + 1) (by omega) _ (by omega)).seed _ (u64_in _).1 (u64_in _).2).drewN _, grow_drewN (grow_set (grow_set (grow_drewN (World.grownBy.refl _ _) _) _ _) _ _) _⟩

theorem Src.more {base : Nat} {w : World} {b : Nat} {a : Option Addr} {len cap n n' : Nat} (h : Src base w b a len cap n) (hn : n ≤ n') : Src base w b a len cap n' := by
  obtain ⟨hC, hb, k, s, hk, r⟩ := h
  exact ⟨hC, hb, k, s, by omega, r⟩
theorem grow_trans {a b c : World} {row : Option Nat} (h : a.grownBy b row) (k : b.grownBy c row) : a.grownBy c row :=
  ⟨k.os.trans h.os, k.tape.trans h.tape, k.output.trans h.output, Nat.le_trans h.size k.size, fun i hi hne => (k.block i (Nat.lt_of_lt_of_le hi h.size) hne).trans (h.block i hi hne)⟩

theorem pick_any (base b : Nat) (a : Option Addr) (len cap n : Nat) (m : Int) (w : World) (h : Src base w b a len cap n) (hn : n ≤ 900000000000) (hl : len ≤ 1048576) (m1 : 1 ≤ m) (m2 : m ≤ 9223372036854775807) :
    Calls Try.prog 52 #[.pointer (some ⟨b, 0, none⟩), .int .i64 m] w (NextPost base b a len cap (n + 2) (fun v => 0 ≤ v ∧ v < m) w) := by
  have HS := Lib.hid h
  clear h
  by_cases hm : m ≤ 1
  · go_enter Try.func52, Try.ntmps52
    go_wp2
    go_ret
    exact ⟨0, rfl, ⟨by omega, by omega⟩, HS.out.more (by omega), World.grownBy.refl _ _⟩
  · by_cases hb : 200 < m
    · go_enter Try.func52, Try.ntmps52
      go_wp2_with fail
      refine (next_any base b a len cap n _ HS.out (by omega) hl).mono ?_
      rintro e w1 ⟨x, rfl, ⟨x0, x1⟩, hs1, hg1⟩
      have H1 := Lib.hid (And.intro hs1 hg1)
      clear hs1 hg1
      go_wp2_with fail
      refine (next_any base b a len cap (n + 1) _ H1.out.1 (by omega) hl).mono ?_
      rintro e w2 ⟨y, rfl, ⟨y0, y1⟩, hs2, hg2⟩
      have H2 := Lib.hid (And.intro hs2 hg2)
      clear hs2 hg2
      have r0 := Int.emod_nonneg (x * 256 + y) (show m ≠ 0 by omega)
      have r1 := Int.emod_lt_of_pos (x * 256 + y) (show 0 < m by omega)
      go_wp2
      go_ret
      exact ⟨_, rfl, ⟨r0, r1⟩, H2.out.1, grow_trans H1.out.2 H2.out.2⟩
    · go_enter Try.func52, Try.ntmps52
      go_wp2_with fail
      refine (next_any base b a len cap n _ HS.out (by omega) hl).mono ?_
      rintro e w1 ⟨x, rfl, ⟨x0, x1⟩, hs1, hg1⟩
      have H1 := Lib.hid (And.intro hs1 hg1)
      clear hs1 hg1
      have r0 := Int.emod_nonneg x (show m ≠ 0 by omega)
      have r1 := Int.emod_lt_of_pos x (show 0 < m by omega)
      go_wp2
      go_ret
      exact ⟨_, rfl, ⟨r0, r1⟩, H1.out.1.more (by omega), H1.out.2⟩

def OnePost (base b : Nat) (a : Option Addr) (len cap n : Nat) (w : World) (e : Ending) (w' : World) : Prop :=
  ∃ v : Bool, e = .returned (.bool v) ∧ Src base w' b a len cap n ∧ w.grownBy w' (some b)
theorem from_any (a : Option Addr) (len cap : Nat) (w : World) (hC : Code w w.heap.size a len) :
    Calls Try.prog 51 #[.slice a len cap] w fun e w' => e = .returned (.pointer (some ⟨w.heap.size, 0, none⟩)) ∧ Src w.heap.size w' w.heap.size a len cap 0 ∧ Below w.heap.size w w' := by
  have HC := Lib.hid hC
  clear hC
  go_enter Try.func51, Try.ntmps51
  go_wp2
  go_ret
  exact ⟨rfl, ⟨HC.out.below ((Below.refl _ _).alloc (Nat.le_refl _) _), Nat.le_refl _, 0, 0, Nat.le_refl _, by omega, by omega, by simp [go_sem], by simp [go_sem], by simp [go_sem], by simp [go_sem], by simp [go_sem]⟩, (Below.refl _ _).alloc (Nat.le_refl _) _⟩

/-- laws.b10At: a number below n -/
def AtPost (n : Int) (w : World) (e : Ending) (w' : World) : Prop := ∃ v : Int, e = .returned (.int .i64 v) ∧ 0 ≤ v ∧ v < n ∧ ∃ m, w' = w.drewN m
theorem Src.below {base : Nat} {w w1 : World} {b : Nat} {a : Option Addr} {len cap n : Nat} (h : Src base w b a len cap n) (hb : Below (b + 1) w w1) : Src base w1 b a len cap n := by
  obtain ⟨hC, hbb, k, s, hk, s0, s1, c0, c1, c2, f1, f2⟩ := h
  exact ⟨hC.below (hb.mono (by omega)), hbb, k, s, hk, s0, s1, (hb.cell (p := ⟨b, 0, none⟩) (by simp)).trans c0, (hb.cell (p := ⟨b, 1, none⟩) (by simp)).trans c1, (hb.cell (p := ⟨b, 2, none⟩) (by simp)).trans c2,
    (hb.frozen (p := ⟨b, 1, none⟩) (by simp)).trans f1, (hb.frozen (p := ⟨b, 2, none⟩) (by simp)).trans f2⟩
end Go.Proofs.Ytmnnpkmjamhmcab
