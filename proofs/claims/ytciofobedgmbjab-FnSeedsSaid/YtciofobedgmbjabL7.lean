/- The walks of exact laws whose function and model answer alike. -/
import Derived.Test.YtciofobedgmbjabRowC
namespace Go.Proofs.Ytciofobedgmbjab
open Go.RowKit Go.PlainAid
set_option maxHeartbeats 800000

theorem SL.lower7 {base base' top : Nat} {w : World} {v : Value} {xs : List Int} (h : SL base top w v xs) (hb : base' ≤ base) : SL base' top w v xs := by
  rcases h with h | ⟨g, cap, rfl, h1, h2, h3, h4, h5⟩
  · exact .inl h
  · exact .inr ⟨g, cap, rfl, h1, by omega, h3, h4, h5⟩
theorem SL.block_lt7 {base top : Nat} {w : World} {v : Value} {xs : List Int} (h : SL base top w v xs) : ∀ g, v.ownBlock = some g → g < top := by
  intro g hg
  rcases h with ⟨rfl, _⟩ | ⟨g', cap, rfl, _, _, h3, _⟩
  · simp [Value.ownBlock] at hg
  · simp [Value.ownBlock] at hg
    omega
theorem SL.other7 {base top : Nat} {w w1 : World} {v : Value} {xs : List Int} {row : Option Nat} (h : SL base top w v xs) (hg : w.grownBy w1 row) (ht : top ≤ w.heap.size) (hr : ∀ g, row = some g → g < base) : SL base top w1 v xs := by
  rcases h with h | ⟨g, cap, rfl, h1, h2, h3, h4, h5⟩
  · exact .inl h
  · have hne : some g ≠ row := fun e => by have := hr g e.symm; omega
    have hb := hg.block g (by omega) hne
    exact .inr ⟨g, cap, rfl, h1, h2, h3, fun i hi => (World.cell?_of_block (a := ⟨g, i, none⟩) hb).trans (h4 i hi), fun i => (World.frozen?_of_block (a := ⟨g, i, none⟩) hb).trans (h5 i)⟩
theorem copy7_any (a : Option Addr) (n cap : Nat) (xs : List Int) (w : World) (h : RO w.heap.size w a xs) (hn : xs.length = n) (hl : n ≤ 1048576) :
    Calls Try.prog 19 #[.slice a n cap] w fun e w' => ∃ b c, e = .returned (.slice b n c) ∧ RO w'.heap.size w' b xs ∧ n ≤ c ∧ SL w.heap.size w'.heap.size w' (.slice b n c) xs ∧ Below w.heap.size w w' := by
  refine (copy_any a n cap xs w h hn hl).mono ?_
  rintro e w' ⟨b, c, rfl, hr, hs, hb⟩
  refine ⟨b, c, rfl, hr, ?_, hs, hb⟩
  rcases hs with ⟨h1, _⟩ | ⟨g, c', h1, h2, _⟩
  · injection h1 with _ h1 h2
    omega
  · injection h1 with _ h1 h3
    omega

def GivesNaiveCounts (f : FuncId) (p0 : Int) (xs : List Int) (ok : Bool) : Prop := ∀ (W : World), Calls Try.prog f #[.int .i64 p0] W fun e w' => ∃ v, e = .returned (.tuple #[v, .bool ok]) ∧ SL W.heap.size w'.heap.size w' v xs ∧ Below W.heap.size W w'
theorem lawNaiveCounts_core (p0 : Int) (xs : List Int) (ok : Bool) (w : World) (hx : xs.length ≤ 400) (HS : Hid (GivesNaiveCounts 28 p0 xs ok)) (HI : Hid (GivesNaiveCounts 29 p0 xs ok)) :
    Calls Try.prog 7 #[.int .i64 p0] w fun e w' => e = .returned (.bool true) ∧ Below w.heap.size w w' := by
  have hok : (ok != ok) = false := by simp
  have hq : (((1 : Int) + (xs.length : Int)) != ((1 : Int) + (xs.length : Int))) = false := by simp
  go_enter Try.func7, Try.ntmps7
  go_wp2_with fail
  refine (HS.out w).mono ?_
  rintro e w2 ⟨va, rfl, ha, hb2⟩
  have z1 := hb2.size
  go_wp2_with fail
  refine (HI.out w2).mono ?_
  rintro e w4 ⟨vb, rfl, hvb, hb4⟩
  have ha4 := ha.below hb4
  have hbel4 := hb2.trans (hb4.mono hb2.size)
  have z2 := hb4.size
  have H2 := Lib.hid (And.intro ha4 hvb)
  clear ha hb4 hb2 ha4 hvb
  go_wp2_with fail
  refine (eq64_yes _ _ xs _ _ _ _ _ H2.out.2 H2.out.1 (by omega)).mono ?_
  rintro e w5 ⟨rfl, n3, rfl⟩
  go_wp2_with fail
  refine (mark64_any _ xs _ _ 1 _ (H2.out.2.drewN n3) (by omega) (by omega) (by omega)).mono ?_
  rintro e w6 ⟨rfl, hm, hg⟩
  have K := Lib.hid (Kept.mk0 hbel4 z1 z2 H2.out.1 H2.out.2 hm hg)
  clear hm hg hbel4 z2 H2
  go_wp2_with fail
  refine (held64_any _ _ _ _ 1 _ K.out.sb (by omega) (by omega) (by omega)).mono ?_
  rintro e w4 ⟨rfl, rfl⟩
  go_wp2_with fail
  refine (HI.out _).mono ?_
  rintro e w8 ⟨vc, rfl, hc, hb8⟩
  have K8 := Lib.hid (K.out.next hb8 z1)
  have HC := Lib.hid hc
  clear K hb8 hc
  go_wp2_with fail
  refine (eq64_yes _ _ xs _ _ _ _ _ HC.out K8.out.sa (by omega)).mono ?_
  rintro e w9 ⟨rfl, n6, rfl⟩
  have K9 := Lib.hid (K8.out.drewN n6)
  clear K8 HC
  go_wp2_with fail
  refine (held64_any _ _ _ _ 1 _ K9.out.sb (by omega) (by omega) (by omega)).mono ?_
  rintro e w10 ⟨rfl, rfl⟩
  go_wp2
  go_ret
  exact ⟨rfl, K9.out.bel⟩
def GivesSeedsBehind (f : FuncId) (p0 p1 : Int) (n : Nat) (ys : List Int) (xs : List Int) (ok : Bool) : Prop := ∀ (W : World) b c, RO W.heap.size W b ys → n ≤ c → Calls Try.prog f #[.int .i64 p0, .int .i64 p1, .slice b n c] W fun e w' => ∃ v, e = .returned (.tuple #[v, .bool ok]) ∧ SL W.heap.size w'.heap.size w' v xs ∧ Below W.heap.size W w'
set_option maxRecDepth 8000 in
theorem lawSeedsBehind_core (p0 p1 : Int) (a : Option Addr) (n cap : Nat) (ys : List Int) (xs : List Int) (ok : Bool) (w : World) (h : RO w.heap.size w a ys) (hn : ys.length = n) (hl : n ≤ 1048576) (hx : xs.length ≤ 400) (HS : Hid (GivesSeedsBehind 18 p0 p1 n ys xs ok)) (HI : Hid (GivesSeedsBehind 20 p0 p1 n ys xs ok)) :
    Calls Try.prog 5 #[.int .i64 p0, .int .i64 p1, .slice a n cap] w fun e w' => e = .returned (.bool true) ∧ Below w.heap.size w w' := by
  have HR := Lib.hid h
  have HN := Lib.hid hn
  have t0 : decide ((1048576 : Int) < (n : Int)) = false := by simp; omega
  have hyl : ys.length ≤ 1048576 := by omega
  have hok : (ok != ok) = false := by simp
  have hq : (((1 : Int) + (xs.length : Int)) != ((1 : Int) + (xs.length : Int))) = false := by simp
  clear h hn
  go_enter Try.func5, Try.ntmps5
  go_wp2_with fail
  refine (copy7_any a n cap ys w HR.out HN.out hl).mono ?_
  rintro e w1 ⟨b1, c1, rfl, r1, k1, _, hb1⟩
  go_wp2_with fail
  refine (HS.out w1 b1 c1 r1 k1).mono ?_
  rintro e w2 ⟨v0, rfl, s0, hb2⟩
  have hB2 : Below w.heap.size w w2 := hb1.trans (hb2.mono hb1.size)
  have z1 := hb1.size
  have z2 := hb2.size
  clear r1 hb1 hb2
  have HR2 := Lib.hid ((HR.out.below hB2).up hB2.size)
  go_wp2_with fail
  refine (copy7_any a n cap ys w2 HR2.out HN.out hl).mono ?_
  rintro e w3 ⟨b3, c3, rfl, r3, k3, s3, hb3⟩
  have s03 := s0.below hb3
  have hB3 := hB2.trans (hb3.mono hB2.size)
  have z3 := hb3.size
  clear s0 hb3 hB2 HR2
  go_wp2_with fail
  refine (HI.out w3 b3 c3 r3 k3).mono ?_
  rintro e w4 ⟨g0, rfl, sg, hb4⟩
  have s04 := s03.below (hb4.mono z3)
  have s34 := s3.below hb4
  have hB4 := hB3.trans (hb4.mono hB3.size)
  have z4 := hb4.size
  have H4 := Lib.hid (And.intro s04 (And.intro s34 (And.intro sg hB4)))
  clear s03 s3 r3 hb4 hB3 s04 s34 sg hB4
  go_wp2_with fail
  refine (eq64_yes _ _ xs _ _ _ _ _ H4.out.2.2.1 H4.out.1 (by omega)).mono ?_
  rintro e w5 ⟨rfl, n5, rfl⟩
  have H5 := Lib.hid (And.intro (H4.out.1.drewN n5) (And.intro (H4.out.2.1.drewN n5) (And.intro (H4.out.2.2.1.drewN n5) (below_drewN H4.out.2.2.2 n5))))
  have z5 : w4.heap.size = (w4.drewN n5).heap.size := rfl
  clear H4
  generalize w4.drewN n5 = w5 at H5 z5 ⊢
  have HR5 := Lib.hid ((HR.out.below H5.out.2.2.2).up H5.out.2.2.2.size)
  go_wp2_with fail
  refine (copy7_any a n cap ys w5 HR5.out HN.out hl).mono ?_
  rintro e w6 ⟨b6, c6, rfl, _, _, s6, hb6⟩
  have H6 := Lib.hid (And.intro (H5.out.1.below (hb6.mono (by omega))) (And.intro (H5.out.2.1.below (hb6.mono (by omega))) (And.intro (H5.out.2.2.1.below (hb6.mono (by omega))) (H5.out.2.2.2.trans (hb6.mono H5.out.2.2.2.size)))))
  have z6 := hb6.size
  have S6 := Lib.hid s6
  clear H5 HR5 hb6 s6
  go_wp2_with fail
  refine (eq64_yes _ _ ys _ _ _ _ _ (H6.out.2.1) S6.out hyl).mono ?_
  rintro e w7 ⟨rfl, n7, rfl⟩
  have H7 := Lib.hid (And.intro (H6.out.1.drewN n7) (And.intro (H6.out.2.1.drewN n7) (And.intro (H6.out.2.2.1.drewN n7) (below_drewN H6.out.2.2.2 n7))))
  have z7 : w6.heap.size = (w6.drewN n7).heap.size := rfl
  clear H6 S6
  generalize w6.drewN n7 = w7 at H7 z7 ⊢
  have tk : decide (((1 : Int) + (ys.length : Int)) < 0) = false := by simp; omega
  go_wp2_with fail
  refine (mark64_any _ ys _ _ 1 _ H7.out.2.1 hyl (by omega) (by omega)).mono ?_
  rintro e w8 ⟨rfl, _, hg8⟩
  have z8 : w7.heap.size ≤ w8.heap.size := hg8.size
  have H8 := Lib.hid (And.intro (H7.out.1.other hg8 (by omega) (fun g e => H7.out.2.1.block g e)) (And.intro (H7.out.2.2.1.other7 hg8 (by omega) (fun g e => H7.out.2.1.block_lt7 g e)) (H7.out.2.2.2.grown hg8 (by omega) (fun g e => by have := H7.out.2.1.block g e; omega))))
  clear H7 hg8
  go_wp2_with fail
  refine (eq64_yes _ _ xs _ _ _ _ _ H8.out.2.1 H8.out.1 (by omega)).mono ?_
  rintro e w9 ⟨rfl, n8, rfl⟩
  go_wp2_with fail
  refine (mark64_any _ xs _ _ 1 _ (H8.out.2.1.drewN n8) (by omega) (by omega) (by omega)).mono ?_
  rintro e w9 ⟨rfl, hm, hg⟩
  have zw3 : w.heap.size ≤ w3.heap.size := by omega
  have K := Lib.hid (Kept.mk0 (w1 := w3) H8.out.2.2 zw3 (by omega) ((H8.out.1.lower7 z1).up (by omega)) (H8.out.2.1.up (by omega)) (by
    exact hm.up (by omega)) hg)
  clear hm hg H8
  go_wp2_with fail
  refine (held64_any _ _ _ _ 1 _ K.out.sb (by omega) (by omega) (by omega)).mono ?_
  rintro e w10 ⟨rfl, rfl⟩
  have HR9 := Lib.hid ((HR.out.below K.out.bel).up K.out.bel.size)
  go_wp2_with fail
  refine (copy7_any a n cap ys w9 HR9.out HN.out hl).mono ?_
  rintro e w11 ⟨b11, c11, rfl, r11, k11, _, hb11⟩
  have K11 := Lib.hid (K.out.next hb11 zw3)
  clear K hb11 HR9
  go_wp2_with fail
  refine (HI.out w11 b11 c11 r11 k11).mono ?_
  rintro e w12 ⟨vc, rfl, hc, hb12⟩
  have K12 := Lib.hid (K11.out.next hb12 zw3)
  have HC := Lib.hid hc
  clear K11 hb12 hc r11
  go_wp2_with fail
  refine (eq64_yes _ _ xs _ _ _ _ _ HC.out K12.out.sa (by omega)).mono ?_
  rintro e w13 ⟨rfl, n12, rfl⟩
  have K13 := Lib.hid (K12.out.drewN n12)
  clear K12 HC
  go_wp2_with fail
  refine (held64_any _ _ _ _ 1 _ K13.out.sb (by omega) (by omega) (by omega)).mono ?_
  rintro e w14 ⟨rfl, rfl⟩
  go_wp2
  go_ret
  exact ⟨rfl, K13.out.bel⟩
theorem lawSeedsBehind_any (p0 p1 : Int) (a : Option Addr) (n cap : Nat) (zs : List Int) (w : World) (h : RowIn .i64 w a n zs) (H : ∀ ys : List Int, ys.length = n → n ≤ 1048576 → RO w.heap.size w a ys → Calls Try.prog 5 #[.int .i64 p0, .int .i64 p1, .slice a n cap] w fun e w' => e = .returned (.bool true) ∧ Below w.heap.size w w') :
    Calls Try.prog 5 #[.int .i64 p0, .int .i64 p1, .slice a n cap] w fun e w' => e = .returned (.bool true) ∧ Below w.heap.size w w' := by
  by_cases hl : n ≤ 1048576
  · obtain ⟨ys, hn, hr⟩ := h.ro
    exact H ys hn hl hr
  · have hle := h.len_le
    have t0 : decide ((1048576 : Int) < (n : Int)) = true := by simp; omega
    clear h H
    go_enter Try.func5, Try.ntmps5
    go_wp2
    go_ret
    exact ⟨rfl, Below.refl _ _⟩
end Go.Proofs.Ytciofobedgmbjab
