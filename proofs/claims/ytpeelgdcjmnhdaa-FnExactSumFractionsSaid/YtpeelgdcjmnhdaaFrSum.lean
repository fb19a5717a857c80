/- Sums of lists of fractions: impl.SumFractions, spec.l01FSum, spec.SumFractions. -/
import Derived.Test.YtpeelgdcjmnhdaaFrRow
namespace Go.Proofs.Ytpeelgdcjmnhdaa
open Go.RowKit Go.PlainAid
set_option maxHeartbeats 800000

instance smallDec (z : Int) : Decidable (Small z) := inferInstanceAs (Decidable (_ ∧ _))
instance addOkDec (a b c d : Int) : Decidable (addOk a b c d) := inferInstanceAs (Decidable (_ ∧ _))
/-- the sum of two fractions, if it is one -/
def addR (f g : Int × Int) : Option (Int × Int) := if addOk f.1 f.2 g.1 g.2 then some (addN f.1 f.2 g.1 g.2, addD f.1 f.2 g.1 g.2) else none
/-- the sum of the first k -/
def sumR (xs : List (Int × Int)) : Nat → Option (Int × Int)
  | 0 => some (0, 1)
  | k + 1 => (sumR xs k).bind fun s => addR s (xs.getD k (0, 1))
theorem addR_of {fn fd gn gd n d : Int} {ok : Bool} (h : addV fn fd gn gd n d ok) : (ok = true ∧ addR (fn, fd) (gn, gd) = some (n, d)) ∨ (ok = false ∧ n = 0 ∧ d = 0 ∧ addR (fn, fd) (gn, gd) = none) := by
  unfold addR
  rcases h with ⟨h, rfl, rfl, rfl⟩ | ⟨h, rfl, rfl, rfl⟩
  · exact .inl ⟨rfl, by rw [if_pos h]⟩
  · exact .inr ⟨rfl, rfl, rfl, by rw [if_neg h]⟩
theorem addR_VF {f g s : Int × Int} (hf : VF f.1 f.2) (hg : VF g.1 g.2) (h : addR f g = some s) : VF s.1 s.2 := by
  unfold addR at h
  split at h
  · next hok =>
    obtain ⟨G, a, b, c, e, S, N, D, _, _, _, _, _, _, _, _, _, _, _, _, _, _, _, _, _, _, eN, eD, D1, gND, _⟩ := add_all f.1 f.2 g.1 g.2 hf hg
    obtain ⟨h1, h2⟩ := hok
    rw [eN] at h1
    rw [eD] at h2
    cases h
    rw [eN, eD]
    exact ⟨D1, h2.2, h1.1, h1.2, gND⟩
  · cases h
theorem sumR_VF {xs : List (Int × Int)} : ∀ {k : Nat} {s : Int × Int}, (∀ j p, j < k → xs[j]? = some p → VF p.1 p.2) → k ≤ xs.length → sumR xs k = some s → VF s.1 s.2
  | 0, s, _, _, h => by
    cases h
    exact ⟨by decide, by decide, by decide, by decide, by decide⟩
  | k + 1, s, hv, hk, h => by
    unfold sumR at h
    obtain ⟨s', h1, h2⟩ := Option.bind_eq_some_iff.1 h
    have hx : xs[k]? = some (xs.getD k (0, 1)) := by rw [List.getD_eq_getElem?_getD, List.getElem?_eq_getElem (by omega)]; rfl
    exact addR_VF (sumR_VF (fun j p hj => hv j p (by omega)) (by omega) h1) (hv k _ (by omega) hx) h2
theorem sumR_none {xs : List (Int × Int)} {k : Nat} (h : sumR xs k = none) : ∀ j, sumR xs (k + j) = none := by
  intro j
  induction j with
  | zero => exact h
  | succ j ih => show (sumR xs (k + j)).bind _ = none; rw [ih]; rfl

/-- what a sum of a list gives -/
def SumV (xs : List (Int × Int)) (n d : Int) (ok : Bool) : Prop := (ok = true ∧ AllVF xs ∧ sumR xs xs.length = some (n, d)) ∨ (ok = false ∧ n = 0 ∧ d = 0 ∧ ¬ (AllVF xs ∧ ∃ s, sumR xs xs.length = some s))
theorem SumV.uniq {xs : List (Int × Int)} {n d n' d' : Int} {ok ok' : Bool} (h : SumV xs n d ok) (h' : SumV xs n' d' ok') : n' = n ∧ d' = d ∧ ok' = ok := by
  rcases h with ⟨h1, h2, h3⟩ | ⟨h1, h2, h3, h4⟩ <;> rcases h' with ⟨k1, k2, k3⟩ | ⟨k1, k2, k3, k4⟩
  · rw [h3] at k3
    cases k3
    exact ⟨rfl, rfl, by rw [h1, k1]⟩
  · exact absurd ⟨h2, _, h3⟩ k4
  · exact absurd ⟨k2, _, k3⟩ h4
  · exact ⟨by rw [h2, k2], by rw [h3, k3], by rw [h1, k1]⟩

theorem isum_any (a : Option Addr) (n cap : Nat) (xs : List (Int × Int)) (w : World) (hx : FIn w a n xs) (hn : n ≤ 64) :
    Calls Try.prog 24 #[.slice a n cap] w fun e w' => ∃ N D ok, e = .returned (.tuple #[.agg #[.int .i64 N, .int .i64 D], .bool ok]) ∧ Hid (SumV xs N D ok) ∧ Below w.heap.size w w' := by
  have HX := Lib.hid hx
  have hl := hx.1
  clear hx
  go_enter Try.func24, Try.ntmps24
  have A0 := (D2.new w (.int .i64 0) (.int .i64 0) 24).alloc (.cells #[.int .i64 0, .int .i64 1] 24)
  have A1 := D2.new (w.alloc (.cells #[.int .i64 0, .int .i64 0] 24)) (.int .i64 0) (.int .i64 1) 24
  have B : Below w.heap.size w ((w.alloc (.cells #[.int .i64 0, .int .i64 0] 24)).alloc (.cells #[.int .i64 0, .int .i64 1] 24)) := ((Below.refl _ w).alloc (Nat.le_refl _) _).alloc (by simp) _
  simp only [World.size_alloc] at A1
  go_wp2
  generalize ((w.alloc (.cells #[.int .i64 0, .int .i64 0] 24)).alloc (.cells #[.int .i64 0, .int .i64 1] 24)) = w1 at A0 A1 B ⊢
  go_loopw [6, 7, 8, 16] (fun _ _ _ i wr => ∃ (k : Nat) (N D : Int), k ≤ n ∧ i = .int .i64 k ∧ Hid ((∀ j p, j < k → xs[j]? = some p → VF p.1 p.2) ∧ sumR xs k = some (N, D)) ∧ D2 wr w.heap.size (.int .i64 0) (.int .i64 0) ∧ D2 wr (w.heap.size + 1) (.int .i64 N) (.int .i64 D) ∧ Below w.heap.size w wr) (fun _ _ _ i _ => n - (intOf i).toNat)
  case atStart => exact ⟨0, 0, 1, Nat.zero_le _, rfl, ⟨fun j _ h => absurd h (by omega), rfl⟩, A0, A1, B⟩
  case round =>
    clear A0 A1 B
    obtain ⟨k, N, D, hk, rfl, hv, A0, A1, B⟩ := hrel
    by_cases hlt : k < n
    · obtain ⟨b', o, x, y, rfl, hxy, c0, c1, hadd⟩ := (HX.out.far B).at hlt
      have HXY := Lib.hid hxy
      have HVS : Hid (VF N D) := sumR_VF hv.out.1 (by omega) hv.out.2
      have K : ∃ (n2 d2 : Int) (ok : Bool), Hid ((ok = true ∧ VF x y ∧ addR (N, D) (x, y) = some (n2, d2)) ∨ (ok = false ∧ n2 = 0 ∧ d2 = 0 ∧ ¬ (VF x y ∧ ∃ s, addR (N, D) (x, y) = some s))) ∧ Hid (GivesFrac 11 #[.agg #[.int .i64 N, .int .i64 D], .agg #[.int .i64 x, .int .i64 y]] n2 d2 ok) := by
        by_cases hvf : VF x y
        · obtain ⟨n2, d2, ok, ha, h1, _⟩ := add_gives N D x y HVS.out hvf
          refine ⟨n2, d2, ok, ?_, h1⟩
          rcases addR_of ha with ⟨e1, e2⟩ | ⟨e1, e2, e3, e4⟩
          · exact .inl ⟨e1, hvf, e2⟩
          · refine .inr ⟨e1, e2, e3, fun h => ?_⟩
            obtain ⟨_, s, hs⟩ := h
            rw [e4] at hs
            cases hs
        · exact ⟨0, 0, false, .inr ⟨rfl, rfl, rfl, fun h => hvf h.1⟩, fun W => add_no N D x y W fun h => hvf h.2⟩
      obtain ⟨n2, d2, ok, hK, HC⟩ := K
      have l0 := A0.lt
      have l1 := A1.lt
      obtain ⟨⟨x0, x1⟩, _, _⟩ := id A1
      clear hxy
      go_wp2_with fail
      refine (HC.out _).mono ?_
      rintro e w3 ⟨rfl, hb⟩
      replace A0 := (A0.alloc (.cells #[.int .i64 x, .int .i64 y] 24)).far hb
      replace A1 := (A1.alloc (.cells #[.int .i64 x, .int .i64 y] 24)).far hb
      replace B := (B.alloc B.size (.cells #[.int .i64 x, .int .i64 y] 24)).trans (hb.mono (by have := B.size; simp; omega))
      clear hb x0 x1 c0 c1 l0 l1
      have l0 := A0.lt
      have l1 := A1.lt
      obtain ⟨⟨x4, x5⟩, x6, x7⟩ := id A0
      obtain ⟨⟨x0, x1⟩, x2, x3⟩ := id A1
      cases ok
      · have HV : Hid (SumV xs 0 0 false) := by
          refine .inr ⟨rfl, rfl, rfl, fun h => ?_⟩
          obtain ⟨ha, s, hs⟩ := h
          rcases hK.out with ⟨e1, _⟩ | ⟨_, _, _, e4⟩
          · cases e1
          · refine e4 ⟨ha (x, y) (List.mem_of_getElem? HXY.out), ?_⟩
            have hk1 : sumR xs (k + 1) = addR (N, D) (x, y) := by
              show (sumR xs k).bind _ = _
              rw [hv.out.2]
              show addR (N, D) (xs.getD k (0, 1)) = _
              rw [List.getD_eq_getElem?_getD, HXY.out]
              rfl
            cases hR : addR (N, D) (x, y) with
            | some s => exact ⟨s, rfl⟩
            | none =>
              rw [hR] at hk1
              have := sumR_none hk1 (xs.length - (k + 1))
              rw [show k + 1 + (xs.length - (k + 1)) = xs.length by omega, hs] at this
              cases this
        replace A0 := A0.alloc (.cells #[.int .i64 n2, .int .i64 d2] 24)
        replace B := B.alloc B.size (.cells #[.int .i64 n2, .int .i64 d2] 24)
        go_upto_region 9 with fail
        generalize w3.alloc (.cells #[.int .i64 n2, .int .i64 d2] 24) = w4 at A0 B ⊢
        clear x0 x1 x2 x3 x4 x5 x6 x7 l0 l1 A1 hK HC HVS
        obtain ⟨p0, p1⟩ := (A0.put (.int .i64 0) (.int .i64 0)).1
        obtain ⟨⟨x4, x5⟩, x6, x7⟩ := id A0
        go_wp2
        unfold putD at p0 p1
        exact bodyPost_ret (v := .tuple #[.agg #[.int .i64 0, .int .i64 0], .bool false]) (by simp [results, Try.results24, go_sem, p0, p1]) rfl ⟨0, 0, false, rfl, HV, below_putD B (Nat.le_refl _) _ _⟩
      · have HV : Hid ((∀ j p, j < k + 1 → xs[j]? = some p → VF p.1 p.2) ∧ sumR xs (k + 1) = some (n2, d2)) := by
          rcases hK.out with ⟨_, e2, e3⟩ | ⟨e1, _⟩
          · refine ⟨fun j p hj hp => ?_, ?_⟩
            · by_cases e : j = k
              · subst e
                rw [HXY.out] at hp
                cases hp
                exact e2
              · exact hv.out.1 j p (by omega) hp
            · show (sumR xs k).bind _ = _
              rw [hv.out.2]
              show addR (N, D) (xs.getD k (0, 1)) = _
              rw [List.getD_eq_getElem?_getD, HXY.out]
              exact e3
          · cases e1
        have A2 := D2.new w3 (.int .i64 n2) (.int .i64 d2) 24
        replace A0 := A0.alloc (.cells #[.int .i64 n2, .int .i64 d2] 24)
        replace A1 := A1.alloc (.cells #[.int .i64 n2, .int .i64 d2] 24)
        replace B := B.alloc B.size (.cells #[.int .i64 n2, .int .i64 d2] 24)
        clear x0 x1 x2 x3 x4 x5 x6 x7
        go_upto_region 10 with fail
        generalize w3.alloc (.cells #[.int .i64 n2, .int .i64 d2] 24) = w4 at A0 A1 A2 B ⊢
        have P0 := Lib.hid (A0.away (show w.heap.size + 1 ≠ w.heap.size by omega) (.int .i64 n2) (.int .i64 d2))
        have P1 := Lib.hid (A1.put (.int .i64 n2) (.int .i64 d2))
        have PB := Lib.hid (below_putD B (show w.heap.size ≤ w.heap.size + 1 by omega) (.int .i64 n2) (.int .i64 d2))
        obtain ⟨⟨x0, x1⟩, x2, x3⟩ := id A1
        obtain ⟨⟨x4, x5⟩, _, _⟩ := id A2
        clear hK HC HVS A0 A1 A2 B l0 l1
        go_wp2
        go_roundw
        case rel => exact ⟨k + 1, n2, d2, by omega, by go_num, HV, P0.out, P1.out, PB.out⟩
        case measure => first | (simp [intOf]; done) | (simp [intOf]; omega)
    · obtain rfl : k = n := by omega
      have HV : Hid (SumV xs N D true) := .inl ⟨rfl, fun p hp => by
        obtain ⟨j, hj, hj2⟩ := List.mem_iff_getElem.1 hp
        exact hv.out.1 j p (by omega) (by rw [List.getElem?_eq_getElem hj, hj2]), by rw [hl]; exact hv.out.2⟩
      obtain ⟨p0, p1⟩ := (A0.put (.int .i64 N) (.int .i64 D)).1
      obtain ⟨⟨x4, x5⟩, x6, x7⟩ := id A0
      obtain ⟨⟨x0, x1⟩, _, _⟩ := id A1
      go_wp2
      unfold putD at p0 p1
      exact bodyPost_ret (v := .tuple #[.agg #[.int .i64 N, .int .i64 D], .bool true]) (by simp [results, Try.results24, go_sem, p0, p1]) rfl ⟨N, D, true, rfl, HV, below_putD B (Nat.le_refl _) _ _⟩
end Go.Proofs.Ytpeelgdcjmnhdaa
