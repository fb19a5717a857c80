/- The least bit of a number; the rank of masks by elimination and by an echelon; a row added to an echelon. No program here. -/
import Derived.Test.YtciofobedgmbjabDoorG3
import Derived.Lib.TrailingZeros
namespace Go.Proofs.YtciofobedgmbjabDoor.G2
set_option maxHeartbeats 400000

theorem ctz_bits {x : Nat} (h0 : ¬ x = 0) (h : x < 2 ^ 64) : x.testBit (Lib.ctz 64 x) = true ∧ Low (Lib.ctz 64 x) x ∧ Lib.ctz 64 x < 64 := by
  obtain ⟨m, hm, hk⟩ := Lib.ctzFrom_spec 64 x (by omega) h
  have e : Lib.ctz 64 x = Lib.ctzFrom 64 x := by simp [Lib.ctz, h0]
  rw [e]
  generalize Lib.ctzFrom 64 x = k at hm hk
  refine ⟨?_, fun j hj => ?_, hk⟩
  · rw [hm, Nat.mul_comm, Nat.testBit_mul_two_pow]
    simp [Nat.testBit_zero]
  · rw [hm, Nat.mul_comm, Nat.testBit_mul_two_pow]
    have : decide (k ≤ j) = false := by simp; omega
    rw [this]; rfl
theorem ctz_lt {x n : Nat} (h0 : ¬ x = 0) (h : x < 2 ^ n) (hn : n ≤ 64) : Lib.ctz 64 x < n := by
  have h1 := (ctz_bits h0 (Nat.lt_of_lt_of_le h (Nat.pow_le_pow_right (by omega) hn))).1
  by_cases g : Lib.ctz 64 x < n
  · exact g
  · rw [Nat.testBit_lt_two_pow (Nat.lt_of_lt_of_le h (Nat.pow_le_pow_right (by omega) (by omega)))] at h1
    exact absurd h1 (by simp)
/-- the least bit moves up when a row with the same one is added -/
theorem ctz_up {x y : Nat} (hx : ¬ x = 0) (hx2 : x < 2 ^ 64) (hy : y.testBit (Lib.ctz 64 x) = true) (hl : Low (Lib.ctz 64 x) y) (h0 : ¬ x ^^^ y = 0) (h : x ^^^ y < 2 ^ 64) : Lib.ctz 64 x < Lib.ctz 64 (x ^^^ y) := by
  obtain ⟨a1, a2, a3⟩ := ctz_bits hx hx2
  obtain ⟨b1, b2, b3⟩ := ctz_bits h0 h
  generalize Lib.ctz 64 x = k at *
  generalize Lib.ctz 64 (x ^^^ y) = m at *
  rcases Nat.lt_or_ge k m with g | g
  · exact g
  · exfalso
    rw [Nat.testBit_xor] at b1
    by_cases e : m = k
    · subst e; rw [a1, hy] at b1; exact absurd b1 (by simp)
    · rw [a2 m (by omega), hl m (by omega)] at b1; exact absurd b1 (by simp)
theorem none_same (w : Nat) : Same (fun _ => 0) w [] := ⟨none_ech, none_bd w, fun x => ⟨fun _ => ker_nil x, fun _ => none_ker x⟩⟩
/-- a reduced row put in -/
theorem same_put {e : Nat → Nat} {w r r0 : Nat} {eqs : List Nat} (h : Same e w eqs) (hr : r < 2 ^ (w + 1)) (hw : w < 63) (h0 : ¬ r = 0) (he : e (Lib.ctz 64 r) = 0) (hk : ∀ x, KerE e x → pv r x = pv r0 x) :
    Same (putE e (Lib.ctz 64 r) r) w (eqs ++ [r0]) := by
  obtain ⟨a1, a2, a3⟩ := h
  obtain ⟨b1, b2, _⟩ := ctz_bits h0 (Nat.lt_of_lt_of_le hr (Nat.pow_le_pow_right (by omega) (by omega)))
  refine ⟨putE_ech a1 b1 b2, putE_bd a2 hr, fun x => ?_⟩
  rw [putE_ker he, ker_snoc, ← a3]
  exact ⟨fun ⟨c1, c2⟩ => ⟨c1, by rw [← hk x c1]; exact c2⟩, fun ⟨c1, c2⟩ => ⟨c1, by rw [hk x c1]; exact c2⟩⟩
theorem same_none {e : Nat → Nat} {w r0 : Nat} {eqs : List Nat} (h : Same e w eqs) (hk : ∀ x, KerE e x → pv 0 x = pv r0 x) : Same e w (eqs ++ [r0]) := by
  obtain ⟨a1, a2, a3⟩ := h
  refine ⟨a1, a2, fun x => ?_⟩
  rw [ker_snoc, ← a3]
  exact ⟨fun c1 => ⟨c1, by rw [← hk x c1, pv_zero]⟩, fun c => c.1⟩

/-- the rows behind a pivot, with its least bit taken out -/
def outP (r : Nat) (l : List Nat) : List Nat := l.map fun q => if q.testBit (Lib.ctz 64 r) then q ^^^ r else q
/-- the rank of masks -/
def rkL : Nat → List Nat → Nat
  | 0, _ => 0
  | _ + 1, [] => 0
  | n + 1, r :: l => if r = 0 then rkL n l else rkL n (outP r l) + 1
theorem opE_put {e : Nat → Nat} {k r : Nat} (h0 : e k = 0) (hr : ¬ r = 0) : ∀ n c, c ≤ k → k < c + n → opE (putE e k r) c n + 1 = opE e c n := by
  intro n
  induction n with
  | zero => intro c h1 h2; omega
  | succ n ih =>
    intro c h1 h2
    rw [opE, opE]
    by_cases g : c = k
    · have e1 : opE (putE e k r) (c + 1) n = opE e (c + 1) n := opE_congr n (c + 1) fun i hi _ => by unfold putE; rw [if_neg (by omega)]
      have e2 : putE e k r c = r := by unfold putE; rw [if_pos g]
      rw [e1, e2, if_neg hr, g, if_pos h0]
    · have e2 : putE e k r c = e c := by unfold putE; rw [if_neg g]
      have := ih (c + 1) (by omega) (by omega)
      rw [e2]
      omega
theorem rk_ech (w : Nat) (hw : w < 63) : ∀ n l, l.length ≤ n → (∀ r, r ∈ l → r < 2 ^ w) → ∃ e, Same e w l ∧ rkL n l + opE e 0 w = w := by
  have hz : ∀ m c, opE (fun _ => 0) c m = m := by
    intro m
    induction m with
    | zero => intro c; rfl
    | succ m ih => intro c; rw [opE, ih, if_pos rfl]
  intro n
  induction n with
  | zero =>
    intro l hl _
    obtain rfl : l = [] := List.eq_nil_of_length_eq_zero (by omega)
    exact ⟨_, none_same w, by rw [rkL, hz]; omega⟩
  | succ n ih =>
    intro l hl hb
    match l, hl, hb with
    | [], _, _ => exact ⟨_, none_same w, by rw [rkL, hz]; omega⟩
    | r :: l, hl, hb =>
      rw [List.length_cons] at hl
      by_cases h0 : r = 0
      · obtain ⟨e, h1, h2⟩ := ih l (by omega) fun q hq => hb q (List.mem_cons_of_mem _ hq)
        refine ⟨e, ⟨h1.1, h1.2.1, fun x => ?_⟩, by rw [rkL, if_pos h0]; exact h2⟩
        rw [h1.2.2]
        constructor
        · intro k q hq
          rcases List.mem_cons.1 hq with g | g
          · rw [g, h0, pv_zero]
          · exact k q g
        · intro k q hq; exact k q (List.mem_cons_of_mem _ hq)
      · have hr := hb r (List.mem_cons_self ..)
        have hr64 : r < 2 ^ 64 := Nat.lt_of_lt_of_le hr (Nat.pow_le_pow_right (by omega) (by omega))
        obtain ⟨b1, b2, b3⟩ := ctz_bits h0 hr64
        have b4 := ctz_lt h0 hr (by omega)
        have hmem : ∀ q, q ∈ outP r l → ∃ q0, q0 ∈ l ∧ q = if q0.testBit (Lib.ctz 64 r) then q0 ^^^ r else q0 := fun q hq => by
          obtain ⟨q0, h1, h2⟩ := List.mem_map.1 hq
          exact ⟨q0, h1, h2.symm⟩
        have hbit : ∀ q, q ∈ outP r l → q.testBit (Lib.ctz 64 r) = false := fun q hq => by
          obtain ⟨q0, _, rfl⟩ := hmem q hq
          split
          · rw [Nat.testBit_xor, b1]; simp_all
          · simp_all
        obtain ⟨e, h1, h2⟩ := ih (outP r l) (by unfold outP; rw [List.length_map]; omega) (fun q hq => by
          obtain ⟨q0, hq0, rfl⟩ := hmem q hq
          split
          · exact Nat.xor_lt_two_pow (hb q0 (List.mem_cons_of_mem _ hq0)) hr
          · exact hb q0 (List.mem_cons_of_mem _ hq0))
        have he : e (Lib.ctz 64 r) = 0 := by
          by_cases g : e (Lib.ctz 64 r) = 0
          · exact g
          · exfalso
            have k1 := (h1.2.2 (2 ^ Lib.ctz 64 r)).2 fun q hq => by rw [pv_pow _ b3, hbit q hq]; rfl
            have k2 := k1 (Lib.ctz 64 r)
            rw [pv_pow _ b3, h1.1.2 _ g] at k2
            exact absurd k2 (by simp)
        refine ⟨putE e (Lib.ctz 64 r) r, ⟨putE_ech h1.1 b1 b2, putE_bd h1.2.1 (Nat.lt_of_lt_of_le hr (Nat.pow_le_pow_right (by omega) (by omega))), fun x => ?_⟩, ?_⟩
        · rw [putE_ker he, h1.2.2]
          constructor
          · rintro ⟨k1, k2⟩ q hq
            rcases List.mem_cons.1 hq with g | g
            · rw [g]; exact k2
            · have k3 := k1 _ (List.mem_map.2 ⟨q, g, rfl⟩)
              have k4 := pv_le q x
              split at k3
              · rw [pv_xor, k2] at k3; omega
              · exact k3
          · intro k
            refine ⟨fun q hq => ?_, k r (List.mem_cons_self ..)⟩
            obtain ⟨q0, hq0, rfl⟩ := hmem q hq
            split
            · rw [pv_xor, k r (List.mem_cons_self ..), k q0 (List.mem_cons_of_mem _ hq0)]
            · exact k q0 (List.mem_cons_of_mem _ hq0)
        · rw [rkL, if_neg h0]
          have := opE_put (e := e) he h0 w 0 (by omega) (by omega)
          omega
theorem rk_open {e : Nat → Nat} {w n : Nat} {l : List Nat} (hw : w < 63) (hn : l.length ≤ n) (hl : ∀ r, r ∈ l → r < 2 ^ w) (h : Same e w l) : rkL n l + opE e 0 w = w := by
  obtain ⟨e', h1, h2⟩ := rk_ech w hw n l hn hl
  rw [same_open h h1 (by omega)]
  exact h2
end Go.Proofs.YtciofobedgmbjabDoor.G2
