/- The law of a coin's chance: what it needs of fractions. -/
import Derived.Test.YtamedggnkbhgeaaPCost
import Derived.Test.YtamedggnkbhgeaaCoinTxt
import Derived.Test.YtamedggnkbhgeaaR8
namespace Go.Proofs.Ytamedggnkbhgeaa
open Go.RowKit Go.PlainAid
set_option maxHeartbeats 1000000

def packB (num den : Nat) : Bool :=
  let P := mkN num den
  let Q := mkD num den
  decide (0 ≤ P ∧ P ≤ Q ∧ 1 ≤ Q ∧ Q ≤ 40 ∧ gcdI P Q = 1 ∧ (0 < P ↔ 0 < num) ∧ (P < Q ↔ num < den))
theorem pack_all : (List.range 41).all (fun den => den == 0 || (List.range 41).all fun num => !decide (num ≤ den) || packB num den) = true := by decide +kernel
def costB (P Q : Nat) : Bool :=
  let n := mulN Q P Q ((Q : Int) - P)
  let d := mulD Q P Q ((Q : Int) - P)
  decide (0 < d ∧ d ≤ 100000 ∧ 0 ≤ n ∧ n ≤ 100000 ∧ n * P * ((Q : Int) - P) = d * Q * Q)
theorem cost_all : (List.range 41).all (fun Q => (List.range 41).all fun P => !decide (0 < P ∧ P < Q) || costB P Q) = true := by decide +kernel
theorem pack_of {num den : Nat} (h1 : 1 ≤ den) (h2 : den ≤ 40) (h3 : num ≤ den) : 0 ≤ mkN num den ∧ mkN num den ≤ mkD num den ∧ 1 ≤ mkD num den ∧ mkD num den ≤ 40 ∧ gcdI (mkN num den) (mkD num den) = 1 ∧ (0 < mkN num den ↔ 0 < num) ∧ (mkN num den < mkD num den ↔ num < den) := by
  have h := pack_all
  rw [List.all_eq_true] at h
  have h4 := h den (List.mem_range.2 (by omega))
  rw [Bool.or_eq_true] at h4
  rcases h4 with h4 | h4
  · simp at h4; omega
  · rw [List.all_eq_true] at h4
    have h5 := h4 num (List.mem_range.2 (by omega))
    rw [Bool.or_eq_true] at h5
    rcases h5 with h5 | h5
    · simp at h5; omega
    · exact of_decide_eq_true h5
theorem cost_of {P Q : Nat} (h0 : 0 < P) (h1 : P < Q) (h2 : Q ≤ 40) : 0 < mulD Q P Q ((Q : Int) - P) ∧ mulD Q P Q ((Q : Int) - P) ≤ 100000 ∧ 0 ≤ mulN Q P Q ((Q : Int) - P) ∧ mulN Q P Q ((Q : Int) - P) ≤ 100000 ∧ mulN Q P Q ((Q : Int) - P) * P * ((Q : Int) - P) = mulD Q P Q ((Q : Int) - P) * Q * Q := by
  have h := cost_all
  rw [List.all_eq_true] at h
  have h4 := h Q (List.mem_range.2 (by omega))
  rw [List.all_eq_true] at h4
  have h5 := h4 P (List.mem_range.2 (by omega))
  rw [Bool.or_eq_true] at h5
  rcases h5 with h5 | h5
  · simp at h5; omega
  · exact of_decide_eq_true h5
theorem add_fix (fn fd gn gd : Int) (hf : VF fn fd) (hg : VF gn gd) : ∃ n d ok, addV fn fd gn gd n d ok ∧ GivesFrac 83 #[.agg #[.int .i64 fn, .int .i64 fd], .agg #[.int .i64 gn, .int .i64 gd]] n d ok := by
  have key : ∀ n d ok, addV fn fd gn gd n d ok → GivesFrac 83 #[.agg #[.int .i64 fn, .int .i64 fd], .agg #[.int .i64 gn, .int .i64 gd]] n d ok := by
    intro n d ok hv W
    refine (add_any fn fd gn gd hf hg W).mono ?_
    rintro e w' ⟨n', d', ok', he, hv', hb⟩
    have : n' = n ∧ d' = d ∧ ok' = ok := by
      rcases hv with ⟨g, r1, r2, r3⟩ | ⟨g, r1, r2, r3⟩ <;> rcases hv'.out with ⟨g', q1, q2, q3⟩ | ⟨g', q1, q2, q3⟩
      · exact ⟨q1.trans r1.symm, q2.trans r2.symm, q3.trans r3.symm⟩
      · exact absurd g g'
      · exact absurd g' g
      · exact ⟨q1.trans r1.symm, q2.trans r2.symm, q3.trans r3.symm⟩
    obtain ⟨rfl, rfl, rfl⟩ := this
    exact ⟨he, hb⟩
  by_cases g : Small (addN fn fd gn gd) ∧ Small (addD fn fd gn gd)
  · exact ⟨_, _, _, .inl ⟨g, rfl, rfl, rfl⟩, key _ _ _ (.inl ⟨g, rfl, rfl, rfl⟩)⟩
  · exact ⟨_, _, _, .inr ⟨g, rfl, rfl, rfl⟩, key _ _ _ (.inr ⟨g, rfl, rfl, rfl⟩)⟩
theorem pcost_any (num den : Nat) (h : VF num den) (hd : den ≤ 40) : ∃ (n d : Int) (ok : Bool), (ok = true ↔ 0 < num ∧ num < den) ∧ (ok = true → 0 < d ∧ d ≤ 100000 ∧ 0 ≤ n ∧ n ≤ 100000 ∧ n * num * ((den : Int) - num) = d * den * den) ∧ GivesFrac 24 #[.agg #[.int .i64 num, .int .i64 den]] n d ok := by
  obtain ⟨a, b, ok, hv, ha⟩ := add_fix 1 1 (-(num : Int)) den VF_one h.neg
  have HS : GivesFrac 59 #[.agg #[.int .i64 1, .int .i64 1], .agg #[.int .i64 num, .int .i64 den]] a b ok := fun W => sub_yes 1 1 num den a b ok W h ha
  obtain ⟨e1, e2⟩ := sub_one (num : Int) den
  obtain ⟨⟨g1, g2, g3, g4⟩, _⟩ := h.out
  by_cases hp : 0 < num ∧ num < den
  · obtain ⟨h0, h1⟩ := hp
    obtain ⟨ea, eb, eok⟩ : a = (den : Int) - num ∧ b = den ∧ ok = true := by
      rcases hv with ⟨_, r1, r2, r3⟩ | ⟨hno, _⟩
      · exact ⟨r1.trans e1, r2.trans e2, r3⟩
      · exact absurd ⟨by rw [e1]; exact ⟨by omega, by omega⟩, by rw [e2]; exact ⟨by omega, by omega⟩⟩ hno
    subst ea
    subst eb
    subst eok
    have hr := VF_rest h (by omega) (by omega)
    have v1 := rec_VF h (by omega)
    have v2 := rec_VF hr (by omega)
    have r1 : recN (num : Int) den = den ∧ recD (num : Int) = num := by unfold recN recD; rw [if_neg (by omega), if_neg (by omega)]; exact ⟨rfl, rfl⟩
    have r2 : recN ((den : Int) - num) den = den ∧ recD ((den : Int) - num) = (den : Int) - num := by unfold recN recD; rw [if_neg (by omega), if_neg (by omega)]; exact ⟨rfl, rfl⟩
    rw [r1.1, r1.2] at v1
    rw [r2.1, r2.2] at v2
    obtain ⟨c, d, ok1, hv1, hi1⟩ := mul_any 1 1 den num VF_one v1
    obtain ⟨m1, m2, m3⟩ := mul_one h (by omega) (by omega)
    obtain ⟨rfl, rfl, rfl⟩ : c = den ∧ d = num ∧ ok1 = true := by
      rcases hv1 with ⟨_, q1, q2, q3⟩ | ⟨hno, _⟩
      · exact ⟨q1.trans m2, q2.trans m3, q3⟩
      · exact absurd m1 hno
    obtain ⟨n, e, ok2, hv2, hi2⟩ := mul_any (den : Int) num den ((den : Int) - num) v1 v2
    obtain ⟨c1, c2, c3, c4, c5⟩ := cost_of h0 h1 hd
    obtain ⟨rfl, rfl, rfl⟩ : n = mulN den num den ((den : Int) - num) ∧ e = mulD den num den ((den : Int) - num) ∧ ok2 = true := by
      rcases hv2 with ⟨_, q1, q2, q3⟩ | ⟨hno, _⟩
      · exact ⟨q1, q2, q3⟩
      · exact absurd ⟨⟨by omega, by omega⟩, ⟨by omega, by omega⟩⟩ hno
    exact ⟨_, _, true, ⟨fun _ => ⟨h0, h1⟩, fun _ => rfl⟩, fun _ => ⟨c1, c2, c3, c4, c5⟩, fun W => pcost_yes num den _ _ true W (by omega) (by omega) HS (fun W => div_yes 1 1 num den den num true W h (by omega) (by unfold Hid; rw [r1.1, r1.2]; exact hi1)) (fun W => div_yes den num ((den : Int) - num) den _ _ true W hr (by omega) (by unfold Hid; rw [r2.1, r2.2]; exact hi2))⟩
  · refine ⟨0, 0, false, ⟨fun e => (by cases e), fun e => absurd e hp⟩, fun e => (by cases e), fun W => pcost_no num den a b ok W ?_ HS⟩
    intro hok
    rcases hv with ⟨_, r1, r2, r3⟩ | ⟨_, _, _, r3⟩
    · have := r1.trans e1
      omega
    · rw [hok] at r3; cases r3
end Go.Proofs.Ytamedggnkbhgeaa
