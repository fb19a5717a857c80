/- The law FnJumped. -/
import Derived.Test.YtmapbaomfaplmaaConB10
import Derived.Test.YtmapbaomfaplmaaConBack
import Derived.Test.YtmapbaomfaplmaaConStates
namespace Go.Proofs.Ytmapbaomfaplmaa
open Go.RowKit Go.PlainAid
set_option maxHeartbeats 1600000

theorem KAt.lift {w w1 V : World} {b : Nat} {x y z : Value} (h : KAt w1.heap.size w1 b x y z V) (hb : Below w.heap.size w w1) : KAt w.heap.size w b x y z V :=
  ⟨h.1, h.2.1, h.2.2.1, Nat.le_trans hb.size h.2.2.2.1, h.2.2.2.2.1, hb.trans (h.2.2.2.2.2.mono hb.size)⟩
/-- a slice that is only read -/
def RL (top : Nat) (w : World) (a : Option Addr) (xs : List Int) : Prop := ∀ i x, xs[i]? = some x → ∃ g, a = some ⟨g, 0, none⟩ ∧ g < top ∧ w.cell? ⟨g, i, none⟩ = some (.int .i64 x)
theorem RL.below {top : Nat} {w w1 : World} {a : Option Addr} {xs : List Int} (h : RL top w a xs) (hb : Below top w w1) : RL top w1 a xs := fun i x hx => by
  obtain ⟨g, ha, hg, hc⟩ := h i x hx
  exact ⟨g, ha, hg, (hb.cell (p := ⟨g, i, none⟩) hg).trans hc⟩
theorem RL.up {top top' : Nat} {w : World} {a : Option Addr} {xs : List Int} (h : RL top w a xs) (ht : top ≤ top') : RL top' w a xs := fun i x hx => by
  obtain ⟨g, ha, hg, hc⟩ := h i x hx
  exact ⟨g, ha, by omega, hc⟩
theorem RL.of_own {base : Nat} {w : World} {e : TypeId} {v : Value} {n : Nat} {xs : List Int} (hn : xs.length = n) (h : w.ownsRow base e 1 v n (xs.map (Value.int .i64))) : ∃ a cap, v = .slice a n cap ∧ RL w.heap.size w a xs := by
  subst hn
  rcases SL.of_own h with ⟨rfl, rfl⟩ | ⟨g, cap, rfl, _, _, hg, hc, _⟩
  · exact ⟨none, 0, rfl, fun i x hx => by simp at hx⟩
  · refine ⟨_, cap, rfl, fun i x hx => ?_⟩
    obtain ⟨hi, hx⟩ := List.getElem?_eq_some_iff.1 hx
    exact ⟨g, rfl, hg, by rw [hc i hi, hx]⟩
/-- what the law keeps: the congruence, the states, and all that lay below -/
def JW (w V : World) (g : Nat) (m a c : Int) (s : Option Addr) (xs : List Int) : Prop := KAt w.heap.size w g (.int .i64 m) (.int .i64 a) (.int .i64 c) V ∧ RL V.heap.size V s xs
theorem JW.below {w V V1 : World} {g : Nat} {m a c : Int} {s : Option Addr} {xs : List Int} (h : JW w V g m a c s xs) (hb : Below V.heap.size V V1) : JW w V1 g m a c s xs := ⟨h.1.below hb, (h.2.below hb).up hb.size⟩

set_option maxRecDepth 20000 in
theorem lawJumped (a : Option Addr) (la ca : Nat) (b : Option Addr) (lb cb : Nat) (w : World) (hC : Code w w.heap.size a la) (hD : Code w w.heap.size b lb) (ha : la ≤ 9223372036854775807) (hb : lb ≤ 9223372036854775807) :
    Calls Try.prog 12 #[.slice a la ca, .slice b lb cb] w fun e w' => e = .returned (.bool true) ∧ Below w.heap.size w w' := by
  by_cases hl : la ≤ 1048576 ∧ lb ≤ 1048576
  · obtain ⟨hla, hlb⟩ := hl
    have HC := Lib.hid hC
    have HD := Lib.hid hD
    clear hC hD
    go_enter Try.func12, Try.ntmps12
    go_wp2_with (go_at_call 38; refine (long_no a b la ca lb cb _ hla hlb).mono ?_; rintro e w' ⟨rfl, rfl⟩)
    refine (b10Con_any a la ca _ HC.out hla).mono ?_
    rintro e w1 ⟨M, A, C, X, rfl, ⟨h1, h2, h3, h4, h5⟩, hb1⟩
    have HM : Hid (2 ≤ M ∧ M ≤ 100000 ∧ A < M ∧ C < M ∧ X < M) := ⟨h1, by omega, h3, h4, h5⟩
    have HD1 : Hid (Code w1 w.heap.size b lb) := HD.out.below hb1
    clear h1 h2 h3 h4 h5
    go_wp2_with fail
    have K2 := (KAt.new w1 (.int .i64 M) (.int .i64 A) (.int .i64 C) 25).lift hb1
    have HD2 : Hid (Code (w1.alloc (.cells #[.int .i64 M, .int .i64 A, .int .i64 C] 25)) w.heap.size b lb) := HD1.out.below ((Below.refl w.heap.size w1).alloc hb1.size _)
    obtain ⟨g, hg⟩ : ∃ g, w1.heap.size = g := ⟨_, rfl⟩
    rw [hg] at K2 ⊢
    generalize w1.alloc (.cells #[.int .i64 M, .int .i64 A, .int .i64 C] 25) = w2 at K2 HD2 ⊢
    clear HD1 hb1 hg
    refine (at_any b lb cb 0 60 w.heap.size _ HD2.out hlb (by omega) (by omega) (by omega)).mono ?_
    rintro e w3 ⟨n, rfl, n0, n1, d1, rfl⟩
    obtain ⟨N, rfl⟩ := Int.eq_ofNat_of_zero_le n0
    have hN : N < 60 := by omega
    have K3 := Lib.hid (K2.drewN d1)
    have HD3 : Hid (Code (w2.drewN d1) w.heap.size b lb) := HD2.out
    clear n0 n1 K2 HD2
    generalize w2.drewN d1 = w3 at K3 HD3 ⊢
    obtain ⟨c0, c1, c2, _⟩ := K3.out
    go_wp2_with fail
    refine (statesOf_yes M A C X N _ HM.out.1 HM.out.2.1 HM.out.2.2.1 HM.out.2.2.2.1 HM.out.2.2.2.2 (by omega)).mono ?_
    rintro e w4 ⟨v, rfl, ho, hb4⟩
    obtain ⟨s, cap, rfl, hs⟩ := RL.of_own (stL_length M A C X N) ho
    have J4 : Hid (JW w w4 g M A C s (stL M A C X N)) := ⟨K3.out.below hb4, hs⟩
    have HD4 : Hid (Code w4 w.heap.size b lb) := HD3.out.below (hb4.mono K3.out.all.size)
    clear ho hb4 hs K3 HD3 c0 c1 c2
    obtain ⟨⟨c0, c1, c2, _⟩, _⟩ := J4.out
    go_wp2_with fail
    refine (jumpK_yes M A C X N _ HM.out.1 HM.out.2.1 HM.out.2.2.1 HM.out.2.2.2.1 HM.out.2.2.2.2 (by omega)).mono ?_
    rintro e w5 ⟨rfl, hb5⟩
    have HD5 : Hid (Code w5 w.heap.size b lb) := HD4.out.below (hb5.mono J4.out.1.all.size)
    have J5 := Lib.hid (J4.out.below hb5)
    clear hb5 J4 HD4 c0 c1 c2
    obtain ⟨⟨c0, c1, c2, _⟩, _⟩ := J5.out
    go_wp2_with fail
    refine (powerOfK_yes M A C N _ HM.out.1 HM.out.2.1 HM.out.2.2.1 HM.out.2.2.2.1 (by omega)).mono ?_
    rintro e w6 ⟨rfl, hb6⟩
    have HD6 : Hid (Code w6 w.heap.size b lb) := HD5.out.below (hb6.mono J5.out.1.all.size)
    have J6 := Lib.hid (J5.out.below hb6)
    clear hb6 J5 HD5 c0 c1 c2
    go_wp2_with fail
    have ba := (Below.refl w6.heap.size w6).alloc (Nat.le_refl _) (.cells #[.int .i64 M, .int .i64 (pA M A N), .int .i64 (pC M A C N)] 25)
    have HD7 : Hid (Code (w6.alloc (.cells #[.int .i64 M, .int .i64 (pA M A N), .int .i64 (pC M A C N)] 25)) w.heap.size b lb) := HD6.out.below (ba.mono J6.out.1.all.size)
    have J7 := Lib.hid (J6.out.below ba)
    generalize w6.alloc (.cells #[.int .i64 M, .int .i64 (pA M A N), .int .i64 (pC M A C N)] 25) = w7 at J7 HD7 ⊢
    clear ba J6 HD6
    have HX : Hid (nx M (pA M A N) (pC M A C N) X = itc M A C X N) := (itc_eq A C HM.out.2.2.2.2 N).symm
    refine (nextState_yes M _ _ X _ HM.out.1 HM.out.2.1 (pA_lt (by have := HM.out.1; omega) _ _) (pC_lt (by have := HM.out.1; omega) _ _ _) HM.out.2.2.2.2).mono ?_
    rw [HX.out]
    rintro e w8 ⟨rfl, hb8⟩
    have HD8 : Hid (Code w8 w.heap.size b lb) := HD7.out.below (hb8.mono J7.out.1.all.size)
    have J8 := Lib.hid (J7.out.below hb8)
    clear hb8 J7 HD7 HX
    have HJ : Hid (itc M A C X N < M) := itc_lt HM.out.2.2.2.2 N
    obtain ⟨Y, hY⟩ : ∃ Y, itc M A C X N = Y := ⟨_, rfl⟩
    have HY := Lib.hid hY
    rw [hY] at HJ ⊢
    clear hY
    have q1 : ((N : Int) != (N : Int)) = false := by simp
    have q2 : ((Y : Int) != (Y : Int)) = false := by simp
    go_wp2
    go_loopw [16, 17, 18, 19] (fun nv iv _ _ wr => ∃ k : Nat, k ≤ N ∧ nv = .int .i64 (itc M A C X k) ∧ iv = .int .i64 k ∧ Hid (JW w wr g M A C s (stL M A C X N)) ∧ Hid (Code wr w.heap.size b lb)) (fun _ iv _ _ _ => N - (intOf iv).toNat)
    case atStart => exact ⟨0, Nat.zero_le _, rfl, rfl, J8, HD8⟩
    case round =>
      obtain ⟨k, hk, rfl, rfl, J9, HD9⟩ := hrel
      clear J8 HD8
      by_cases hlt : k < N
      · obtain ⟨⟨c0, c1, c2, _⟩, hr⟩ := J9.out
        have HK : Hid (itc M A C X k < M) := itc_lt HM.out.2.2.2.2 k
        obtain ⟨y, hy⟩ : ∃ y, itc M A C X (k + 1) = y := ⟨_, rfl⟩
        have HY2 := Lib.hid hy
        have hcell := stL_get M A C X k N hlt
        rw [hy] at hcell
        obtain ⟨gs, rfl, hgs, hcs⟩ := hr _ _ hcell
        have HCS := Lib.hid (And.intro hgs hcs)
        have HNX : Hid (nx M A C (itc M A C X k) = y) := by unfold Hid; rw [← hy]; rfl
        clear hr hcell hgs hcs hy
        go_wp2_with fail
        refine (nextState_yes M A C _ _ HM.out.1 HM.out.2.1 HM.out.2.2.1 HM.out.2.2.2.1 HK.out).mono ?_
        rw [HNX.out]
        rintro e w10 ⟨rfl, hb10⟩
        have HD10 : Hid (Code w10 w.heap.size b lb) := HD9.out.below (hb10.mono J9.out.1.all.size)
        have J10 := Lib.hid (J9.out.below hb10)
        have hc := (hb10.cell (p := ⟨gs, k, none⟩) HCS.out.1).trans HCS.out.2
        have q3 : ((y : Int) != (y : Int)) = false := by simp
        clear hb10 J9 HD9 c0 c1 c2 HCS
        go_wp2
        go_roundw
        case rel => exact ⟨k + 1, by omega, by rw [HY2.out], by go_num, J10, HD10⟩
        case measure => simp [intOf]; omega
      · obtain rfl : k = N := by omega
        rw [HY.out]
        have K9 : Hid (KAt w.heap.size w g (.int .i64 M) (.int .i64 A) (.int .i64 C) wr) := J9.out.1
        clear J9
        go_wp2_with fail
        refine (at_any b lb cb 1 200 w.heap.size _ HD9.out hlb (by omega) (by omega) (by omega)).mono ?_
        rintro e w11 ⟨u, rfl, u0, u1, d2, rfl⟩
        obtain ⟨U, rfl⟩ := Int.eq_ofNat_of_zero_le u0
        have K11 := Lib.hid (K9.out.drewN d2)
        clear K9 HD9 u0
        generalize wr.drewN d2 = w11 at K11 ⊢
        obtain ⟨G, hG⟩ : ∃ G : Nat, 1000000007 * (1 + (U : Int)) = (G : Int) := ⟨1000000007 * (1 + U), by omega⟩
        have HG2 : Hid (G ≤ 300000000000) := by unfold Hid; omega
        have EW : IntKind.i64.wrap (1000000007 * (1 + (U : Int))) = (G : Int) := by rw [hG]; exact IntWalk.i64_in _ (by omega)
        clear hG
        obtain ⟨c0, c1, c2, _⟩ := K11.out
        go_wp2_with fail
        refine (jumpK_yes M A C Y G _ HM.out.1 HM.out.2.1 HM.out.2.2.1 HM.out.2.2.2.1 HJ.out (by have := HG2.out; omega)).mono ?_
        rintro e w12 ⟨rfl, hb12⟩
        have K12 := Lib.hid (K11.out.below hb12)
        clear hb12 K11 c0 c1 c2 EW u1
        obtain ⟨c0, c1, c2, _⟩ := K12.out
        have hGN : IntKind.i64.wrap ((G : Int) + (k : Int)) = ((G + k : Nat) : Int) := by have := HG2.out; rw [show ((G : Int) + (k : Int)) = ((G + k : Nat) : Int) by omega]; exact IntWalk.i64_in _ (by omega)
        go_wp2_with fail
        refine (jumpK_yes M A C X (G + k) _ HM.out.1 HM.out.2.1 HM.out.2.2.1 HM.out.2.2.2.1 HM.out.2.2.2.2 (by have := HG2.out; omega)).mono ?_
        rintro e w13 ⟨rfl, hb13⟩
        have K13 := Lib.hid (K12.out.below hb13)
        clear hb13 K12 c0 c1 c2 hGN
        have HF : Hid (itc M A C X (G + k) = itc M A C Y G) := by
          unfold Hid
          rw [Nat.add_comm, itc_add, HY.out]
        rw [HF.out]
        obtain ⟨F, hF⟩ : ∃ F, itc M A C Y G = F := ⟨_, rfl⟩
        rw [hF]
        clear hF HF
        obtain ⟨c0, c1, c2, _⟩ := K13.out
        have q3 : ((F : Int) != (F : Int)) = false := by simp
        by_cases hgc : Nat.gcd M A = 1
        · obtain ⟨y, hy⟩ := inv_exists HM.out.1 HM.out.2.2.1 hgc
          have HI := Lib.hid hy
          clear hy hgc
          go_wp2_with fail
          refine (backK_yes M A C y _ HM.out.1 HM.out.2.1 HM.out.2.2.1 HM.out.2.2.2.1 HI.out).mono ?_
          rintro e w14 ⟨rfl, hb14⟩
          have K14 := Lib.hid (K13.out.below hb14)
          clear hb14 K13 c0 c1 c2
          obtain ⟨z, hz⟩ : ∃ z, (M - y * C % M) % M = z := ⟨_, rfl⟩
          have HZ := Lib.hid hz
          rw [hz]
          clear hz
          have HZM : Hid (y < M ∧ z < M) := ⟨HI.out.1, by rw [← HZ.out]; exact Nat.mod_lt _ (by have := HM.out.1; omega)⟩
          obtain ⟨c0, c1, c2, _⟩ := K14.out
          go_wp2_with fail
          have L0 := KAt.new w14 (.int .i64 M) (.int .i64 y) (.int .i64 z) 25
          have K15 := Lib.hid (K14.out.below L0.all)
          generalize w14.alloc (.cells #[.int .i64 M, .int .i64 y, .int .i64 z] 25) = w15 at L0 K15 ⊢
          clear K14 c0 c1 c2
          refine (specBackK_yes M A C y _ HM.out.1 HM.out.2.1 HM.out.2.2.1 HM.out.2.2.2.1 HI.out).mono ?_
          rw [HZ.out]
          rintro e w16 ⟨rfl, hb16⟩
          have K16 := Lib.hid (K15.out.below hb16)
          have L16 := Lib.hid (L0.below hb16)
          clear hb16 K15 L0
          have ba := (Below.refl w16.heap.size w16).alloc (Nat.le_refl _) (.cells #[.int .i64 M, .int .i64 y, .int .i64 z] 25)
          have K17 := Lib.hid (K16.out.below ba)
          have L17 := Lib.hid (L16.out.below ba)
          clear ba K16 L16
          obtain ⟨c0, c1, c2, _⟩ := K17.out
          go_wp2_with fail
          clear c0 c1 c2
          generalize w16.alloc (.cells #[.int .i64 M, .int .i64 y, .int .i64 z] 25) = w17 at K17 L17 ⊢
          refine (nextState_yes M A C X _ HM.out.1 HM.out.2.1 HM.out.2.2.1 HM.out.2.2.2.1 HM.out.2.2.2.2).mono ?_
          rintro e w18 ⟨rfl, hb18⟩
          have K18 := Lib.hid (K17.out.below hb18)
          have L18 := Lib.hid (L17.out.below hb18)
          clear hb18 K17 L17
          have HBS : Hid (nx M y z (nx M A C X) = X) := by unfold Hid; rw [← HZ.out]; exact back_step HM.out.2.2.2.1 HM.out.2.2.2.2 HI.out
          have HNM : Hid (nx M A C X < M) := nx_lt (by have := HM.out.1; omega) _ _ _
          obtain ⟨V, hV⟩ : ∃ V, nx M A C X = V := ⟨_, rfl⟩
          rw [hV] at HBS HNM ⊢
          clear hV
          obtain ⟨c0, c1, c2, _⟩ := L18.out
          go_wp2_with fail
          refine (nextState_yes M y z V _ HM.out.1 HM.out.2.1 HZM.out.1 HZM.out.2 HNM.out).mono ?_
          rw [HBS.out]
          rintro e w19 ⟨rfl, hb19⟩
          have K19 := Lib.hid (K18.out.below hb19)
          clear hb19 K18 L18 c0 c1 c2
          have q4 : ((X : Int) == (X : Int)) = true := by simp
          go_wp2
          go_ret
          exact ⟨rfl, K19.out.all⟩
        · have HG : Hid (∃ M' A' : Nat, (M : Int) = M' ∧ (A : Int) = A' ∧ 2 ≤ M' ∧ M' ≤ 100000 ∧ A' < M' ∧ Nat.gcd M' A' ≠ 1) := ⟨M, A, rfl, rfl, HM.out.1, HM.out.2.1, HM.out.2.2.1, hgc⟩
          clear hgc
          go_wp2_with fail
          refine (backK_no M A C _ (.inr HG.out)).mono ?_
          rintro e w14 ⟨rfl, hb14⟩
          have K14 := Lib.hid (K13.out.below hb14)
          clear hb14 K13 c0 c1 c2
          obtain ⟨c0, c1, c2, _⟩ := K14.out
          go_wp2_with fail
          have ba := (Below.refl w14.heap.size w14).alloc (Nat.le_refl _) (.cells #[.int .i64 0, .int .i64 0, .int .i64 0] 25)
          have K15 := Lib.hid (K14.out.below ba)
          clear ba K14 c0 c1 c2
          generalize w14.alloc (.cells #[.int .i64 0, .int .i64 0, .int .i64 0] 25) = w15 at K15 ⊢
          refine (specBackK_no M A C _ (.inr HG.out)).mono ?_
          rintro e w16 ⟨rfl, hb16⟩
          have K16 := Lib.hid (K15.out.below hb16)
          clear hb16 K15
          go_wp2
          go_ret
          exact ⟨rfl, K16.out.all.alloc K16.out.all.size _⟩
  · have HL := Lib.hid hl
    clear hl
    go_enter Try.func12, Try.ntmps12
    go_wp2_with (go_at_call 38; refine (long_yes a b la ca lb cb _ ha hb HL.out).mono ?_; rintro e w' ⟨rfl, rfl⟩)
    go_ret
    exact ⟨rfl, Below.refl _ _⟩
end Go.Proofs.Ytmapbaomfaplmaa
