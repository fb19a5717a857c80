/- Slices of fractions: reading them. spec.l01FAll. -/
import Derived.Test.YtmnnpkmjamhmcabFrSpec
namespace Go.Proofs.Ytmnnpkmjamhmcab
open Go.RowKit Go.PlainAid
set_option maxHeartbeats 800000

/-- a slice of fractions, as it is read -/
def FIn (w : World) (a : Option Addr) (n : Nat) (xs : List (Int × Int)) : Prop :=
  xs.length = n ∧ (n = 0 ∨ ∃ b o : Nat, a = some ⟨b, o, none⟩ ∧ ∀ i, (h : i < xs.length) → w.cell? ⟨b, o + i * 2, none⟩ = some (.int .i64 xs[i].1) ∧ w.cell? ⟨b, o + i * 2 + 1, none⟩ = some (.int .i64 xs[i].2))
theorem FIn.far {w w1 : World} {a : Option Addr} {n : Nat} {xs : List (Int × Int)} (h : FIn w a n xs) (hb : Below w.heap.size w w1) : FIn w1 a n xs := by
  obtain ⟨h1, h2 | ⟨b, o, rfl, h3⟩⟩ := h
  · exact ⟨h1, .inl h2⟩
  · refine ⟨h1, .inr ⟨b, o, rfl, fun i hi => ?_⟩⟩
    obtain ⟨h4, h5⟩ := h3 i hi
    exact ⟨(hb.cell (World.block_lt_of_cell? w _ h4)).trans h4, (hb.cell (World.block_lt_of_cell? w _ h5)).trans h5⟩
theorem FIn.grow {w w1 : World} {a : Option Addr} {n : Nat} {xs : List (Int × Int)} (h : FIn w a n xs) (hb : w.grownBy w1 none) : FIn w1 a n xs := h.far ((Below.refl _ w).grown hb (Nat.le_refl _) (by simp))
/-- one element -/
theorem FIn.at {w : World} {a : Option Addr} {n : Nat} {xs : List (Int × Int)} (h : FIn w a n xs) {k : Nat} (hk : k < n) : ∃ (b o : Nat) (x y : Int), a = some ⟨b, o, none⟩ ∧ xs[k]? = some (x, y) ∧ w.cell? ⟨b, o + k * 2, none⟩ = some (.int .i64 x) ∧ w.cell? ⟨b, o + k * 2 + 1, none⟩ = some (.int .i64 y) ∧
    (⟨b, o, none⟩ : Addr).add (k * 2) = ⟨b, o + k * 2, none⟩ := by
  obtain ⟨h1, h2 | ⟨b, o, rfl, h3⟩⟩ := h
  · omega
  · obtain ⟨h4, h5⟩ := h3 k (by omega)
    refine ⟨b, o, xs[k].1, xs[k].2, rfl, by rw [List.getElem?_eq_getElem (by omega)], h4, h5, ?_⟩
    unfold Addr.add
    split
    · next h => rw [h]; rfl
    · rfl

theorem FIn.of_cells {w : World} (x : Addr) (l : Nat) (q : Nat → Int × Int) (h : ∀ i, i < l → w.cell? (x.add (i * 2)) = some (.int .i64 (q i).1) ∧ w.cell? (x.add (i * 2 + 1)) = some (.int .i64 (q i).2)) : FIn w (some x) l ((List.range l).map q) := by
  refine ⟨by simp, ?_⟩
  by_cases hl : l = 0
  · exact .inl hl
  · right
    obtain ⟨b, o, s⟩ := x
    have h0 := (h 0 (by omega)).1
    have hs : s = none := by
      cases s with
      | none => rfl
      | some k =>
        simp only [Addr.add, World.cell?] at h0
        split at h0
        · simp at h0
        · cases h0
    subst hs
    refine ⟨b, o, rfl, fun i hi => ?_⟩
    have hi' : i < l := by simpa using hi
    obtain ⟨c0, c1⟩ := h i hi'
    have e0 : (⟨b, o, none⟩ : Addr).add (i * 2) = ⟨b, o + i * 2, none⟩ := by
      unfold Addr.add
      split
      · next hz => rw [hz]; rfl
      · rfl
    have e1 : (⟨b, o, none⟩ : Addr).add (i * 2 + 1) = ⟨b, o + i * 2 + 1, none⟩ := by
      unfold Addr.add
      rw [if_neg (by omega), Nat.add_assoc]
    rw [e0] at c0
    rw [e1] at c1
    simpa using ⟨c0, c1⟩

/-- all of them are valid -/
def AllVF (xs : List (Int × Int)) : Prop := ∀ p ∈ xs, VF p.1 p.2

theorem fall_any (a : Option Addr) (n cap : Nat) (xs : List (Int × Int)) (w : World) (hx : FIn w a n xs) (hn : n ≤ 1048576) :
    (AllVF xs → Calls Try.prog 128 #[.slice a n cap] w fun e w' => e = .returned (.bool true) ∧ Below w.heap.size w w') ∧ (¬ AllVF xs → Calls Try.prog 128 #[.slice a n cap] w fun e w' => e = .returned (.bool false) ∧ Below w.heap.size w w') := by
  have key : ∀ b : Bool, (b = true ↔ AllVF xs) → Calls Try.prog 128 #[.slice a n cap] w fun e w' => e = .returned (.bool b) ∧ Below w.heap.size w w' := by
    intro b hb
    have HX := Lib.hid hx
    have hl := hx.1
    clear hx
    go_enter Try.func128, Try.ntmps128
    go_wp2
    go_loopw [3] (fun i wr => ∃ k : Nat, k ≤ n ∧ i = .int .i64 k ∧ (∀ j p, j < k → xs[j]? = some p → VF p.1 p.2) ∧ Below w.heap.size w wr) (fun i _ => n - (intOf i).toNat)
    case atStart => exact ⟨0, Nat.zero_le _, rfl, fun j _ h => absurd h (by omega), Below.refl _ _⟩
    case round =>
      obtain ⟨k, hk, rfl, hv, hbel⟩ := hrel
      have HV := Lib.hid hv
      clear hv
      by_cases hlt : k < n
      · obtain ⟨b', o, x, y, rfl, hxy, c0, c1, hadd⟩ := (HX.out.far hbel).at hlt
        have HXY := Lib.hid hxy
        clear hxy
        by_cases hvf : VF x y
        · have HVF := Lib.hid hvf
          clear hvf
          go_wp2_with fail
          refine (fis_yes _ _ _ HVF.out).mono ?_
          rintro e w1 ⟨rfl, hb1⟩
          have hbel1 := hbel.trans (hb1.mono hbel.size)
          clear hb1 hbel c0 c1
          go_wp2
          go_roundw
          case rel =>
            refine ⟨k + 1, by omega, by go_num, fun j p hj hp => ?_, hbel1⟩
            by_cases e : j = k
            · subst e
              rw [HXY.out] at hp
              cases hp
              exact HVF.out
            · exact HV.out j p (by omega) hp
          case measure => first | (simp [intOf]; done) | (simp [intOf]; omega)
        · have HVF := Lib.hid hvf
          have hbf : b = false := by
            cases b
            · rfl
            · exact absurd (hb.1 rfl (x, y) (List.mem_of_getElem? HXY.out)) hvf
          subst hbf
          clear hvf
          go_wp2_with fail
          refine (fis_no _ _ _ HVF.out).mono ?_
          rintro e w1 ⟨rfl, hb1⟩
          have hbel1 := hbel.trans (hb1.mono hbel.size)
          clear hb1 hbel c0 c1
          go_wp2
          go_ret
          exact ⟨rfl, hbel1⟩
      · obtain rfl : k = n := by omega
        have hbt : b = true := hb.2 fun p hp => by
          obtain ⟨j, hj, hj2⟩ := List.mem_iff_getElem.1 hp
          exact HV.out j p (by omega) (by rw [List.getElem?_eq_getElem hj, hj2])
        subst hbt
        go_wp2
        go_ret
        exact ⟨rfl, hbel⟩
  exact ⟨fun h => key true (by simp [h]), fun h => key false (by simp [h])⟩
end Go.Proofs.Ytmnnpkmjamhmcab
