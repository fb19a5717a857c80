/- MixT, WdC, WdI in one text (tools/merge.py). -/
import Derived.Test.YtmnnpkmjamhmcabMix
import Derived.Test.YtmnnpkmjamhmcabWdZ
namespace Go.Proofs.Ytmnnpkmjamhmcab
open Go Go.RowKit

section
variable {P : Program} {ops : Array Oper} {md : Region.Mode} {W0 : World} {rw : Option Nat}

def headsOk (md : Region.Mode) (ops : Array Oper) : List Nat → Array Bool → Bool
  | [], _ => true
  | i :: hs, listed => (Region.ready md ops listed).contains i && Region.free md ops listed i && headsOk md ops hs (listed.setIfInBounds i true)
def listAll : List Nat → Array Bool → Array Bool
  | [], l => l
  | i :: hs, l => listAll hs (l.setIfInBounds i true)
theorem anyG_headsT {Q : Exit → Act → World → Prop} (hsel : Region.noSelect ops = true) (m : Nat) (w : World) :
    ∀ (hs : List Nat) (listed : Array Bool) (a : Act), (∀ i ∈ hs, i < ops.size) → headsOk md ops hs listed = true → wpQuietG P ops W0 rw (fun a' => anyG P md ops W0 rw Q m (listAll hs listed) a' w) (pickOps ops hs) a →
      anyG P md ops W0 rw Q (m + hs.length) listed a w
  | [], listed, a, _, _, h => h
  | i :: hs, listed, a, hlt, hB, h => by
    simp only [headsOk, Bool.and_eq_true] at hB
    obtain ⟨o, hi⟩ : ∃ o, ops[i]? = some o := ⟨_, Array.getElem?_eq_getElem (hlt i (by simp))⟩
    have hp : pickOps ops (i :: hs) = o :: pickOps ops hs := by simp [pickOps, hi]
    rw [hp] at h
    have hr : i ∈ Region.ready md ops listed := by simpa using hB.1.1
    obtain ⟨v, hy, hK⟩ : ∃ v, YieldsG P ops W0 rw o v a ∧ wpQuietG P ops W0 rw (fun a' => anyG P md ops W0 rw Q m (listAll hs (listed.setIfInBounds i true)) a' w) (pickOps ops hs) (a.put o.dst v) := by
      simp only [wpQuietG] at h
      split at h
      · rename_i hw
        obtain ⟨v, h1, h2⟩ := h
        exact ⟨v, .inl ⟨hw, h1⟩, h2⟩
      · rename_i hw
        exact ⟨undef, .inr ⟨by simpa using hw, rfl⟩, h⟩
    rw [List.length_cons, ← Nat.add_assoc]
    exact anyG_first hi (Region.noSelect_spec hsel) _ listed a w (Region.free_spec hi hB.1.2) hr hy (anyG_headsT hsel m w hs _ _ (fun k hk => hlt k (by simp [hk])) hB.2 hK)
def mixT (ops : Array Oper) (hs : List Nat) (m : Nat) : Bool := Region.noSelect ops && hs.all (fun i => decide (i < ops.size)) && decide (m + hs.length = ops.size) && headsOk .any ops hs (Array.replicate ops.size false)
theorem wp_region_mixT {id : Nat} (rw : Option Nat) {Q : Exit → Act → World → Prop} {a : Act} {w : World} {l : List Oper} (hs : List Nat) (m : Nat) (hm : P.follows .mixedOrders = true) (hB : mixT l.toArray hs m = true)
    (h : wpQuietG P l.toArray w.drew rw (fun a' => anyG P .any l.toArray w.drew rw Q m (listAll hs (Array.replicate l.toArray.size false)) a' w.drew) (pickOps l.toArray hs) a) : (Code.region id l.toArray true).wp P Q a w := by
  simp only [mixT, Bool.and_eq_true, decide_eq_true_eq, List.all_eq_true] at hB
  obtain ⟨⟨⟨h1, h2⟩, h4⟩, h5⟩ := hB
  refine wp_region_any hm ?_
  have := anyG_headsT (md := .any) h1 m w.drew hs _ a h2 h5 h
  rw [h4] at this
  exact wpAny_of_anyG _ _ a _ (gr_refl _ _) this
theorem anyG_one {Q : Exit → Act → World → Prop} {f : Nat} {listed : Array Bool} {a : Act} {w : World} (j : Nat) (o : Oper) (hj : Region.ready md ops listed = [j]) (ho : ops[j]? = some o)
    (h : ∀ w', W0.grownBy w' rw → Below w.heap.size w w' → wpList P ops (fun e a' w'' => e = .normal ∧ W0.grownBy w'' rw ∧ anyG P md ops W0 rw Q f (listed.setIfInBounds j true) a' w'') [o] a w') : anyG P md ops W0 rw Q (f + 1) listed a w := by
  refine ⟨fun e => (by rw [hj] at e; cases e), fun w1 h1 h2 i hi => ?_⟩
  rw [hj] at hi
  obtain rfl : i = j := by simpa using hi
  exact wpOp_of_one ho (h w1 h1 h2)
theorem anyG_two {Q : Exit → Act → World → Prop} {f : Nat} {listed : Array Bool} {a : Act} {w : World} (j k : Nat) (o p : Oper) (hj : Region.ready md ops listed = [j, k]) (ho : ops[j]? = some o) (hp : ops[k]? = some p)
    (h1 : ∀ w', W0.grownBy w' rw → Below w.heap.size w w' → wpList P ops (fun e a' w'' => e = .normal ∧ W0.grownBy w'' rw ∧ anyG P md ops W0 rw Q f (listed.setIfInBounds j true) a' w'') [o] a w')
    (h2 : ∀ w', W0.grownBy w' rw → Below w.heap.size w w' → wpList P ops (fun e a' w'' => e = .normal ∧ W0.grownBy w'' rw ∧ anyG P md ops W0 rw Q f (listed.setIfInBounds k true) a' w'') [p] a w') : anyG P md ops W0 rw Q (f + 1) listed a w := by
  refine ⟨fun e => (by rw [hj] at e; cases e), fun w1 g1 g2 i hi => ?_⟩
  rw [hj] at hi
  rcases List.mem_cons.1 hi with rfl | hi
  · exact wpOp_of_one ho (h1 w1 g1 g2)
  · obtain rfl : i = k := by simpa using hi
    exact wpOp_of_one hp (h2 w1 g1 g2)
theorem anyG_done {Q : Exit → Act → World → Prop} {listed : Array Bool} {a : Act} {w : World} (hj : Region.ready md ops listed = []) (h : ∀ w', W0.grownBy w' rw → Below w.heap.size w w' → Q .normal a w') : anyG P md ops W0 rw Q 0 listed a w := ⟨hj, h⟩
end
end Go.Proofs.Ytmnnpkmjamhmcab

namespace Go.Proofs.Ytmnnpkmjamhmcab
open Go.RowKit Go.PlainAid
set_option maxHeartbeats 1600000
set_option maxRecDepth 20000

/-- -1, 0 or 1 for whole numbers -/
def ci (a b : Int) : Int := if a = b then 0 else if a < b then -1 else 1
theorem wcmp_any (v1 v2 : Value) (P Q R S : Int) (e1 e2 : Nat) (w : World) (h1 : Wd w v1 P Q e1) (h2 : Wd w v2 R S e2) (b1 : 60 ≤ e1) (b2 : 60 ≤ e2) (c1 : e1 ≤ 4000000) (c2 : e2 ≤ 4000000) (hQ : 0 < Q) (hS : 0 < S) :
    Calls Try.prog 98 #[v1, v2] w fun e w' => e = .returned (.int .i64 (ci (P * S) (R * Q))) ∧ Below w.heap.size w w' := by
  have HV1 := Lib.hid h1
  have HV2 := Lib.hid h2
  obtain ⟨s1, ga, la, ca, N, gb, lb, cb, D, f1, fn, fd, rfl, _⟩ := h1
  obtain ⟨s2, gc, lc, cc, M, gd, ld, cd, E, f2, hn, hd, rfl, _⟩ := h2
  have hV1 : VF (-1) 1 := ⟨by decide, by decide, by decide, by decide, by decide⟩
  obtain ⟨A0, A1, B⟩ := DL.two w (.bool s1) (.bool s2) [.slice (some ⟨ga, 0, none⟩) la ca, .slice (some ⟨gb, 0, none⟩) lb cb, .bool f1, .int .i64 fn, .int .i64 fd] [.slice (some ⟨gc, 0, none⟩) lc cc, .slice (some ⟨gd, 0, none⟩) ld cd, .bool f2, .int .i64 hn, .int .i64 hd] 115 115
  go_enter Try.func98, Try.ntmps98
  go_wp2
  generalize (w.alloc (.cells _ _)).alloc (.cells _ _) = w1 at A0 A1 B ⊢
  have q0 := (A0.drew).gr (rw := none) (by simp) 0 rfl
  have q1 := (A0.drew).gr (rw := none) (by simp) 1 rfl
  have q2 := (A0.drew).gr (rw := none) (by simp) 2 rfl
  have q3 := (A0.drew).gr (rw := none) (by simp) 3 rfl
  have q4 := (A0.drew).gr (rw := none) (by simp) 4 rfl
  have q5 := (A0.drew).gr (rw := none) (by simp) 5 rfl
  have r0 := (A1.drew).gr (rw := none) (by simp) 0 rfl
  have r1 := (A1.drew).gr (rw := none) (by simp) 1 rfl
  have r2 := (A1.drew).gr (rw := none) (by simp) 2 rfl
  have r3 := (A1.drew).gr (rw := none) (by simp) 3 rfl
  have r4 := (A1.drew).gr (rw := none) (by simp) 4 rfl
  have r5 := (A1.drew).gr (rw := none) (by simp) 5 rfl
  have hv1 := HV1.out.far B
  have hv2 := HV2.out.far B
  have hz1 := B.size
  clear A0 A1
  refine wp_region_mixT none [0, 1, 3] 5 (by kernel_rfl) (by kernel_rfl) ?_
  simp only [pickOps, List.filterMap_cons, List.filterMap_nil, List.getElem?_toArray, List.getElem?_cons_succ, List.getElem?_cons_zero]
  repeat (refine wpQuietG_step (fun K hK => ?_); go_simp; first | (refine hK _ ?_; clear hK K) | (apply Exists.intro; refine ⟨fun _ => ?_, hK _ ?_⟩; (fail); clear hK K))
  refine wpQuietG_nil ?_
  clear q0 q1 q2 q3 q4 q5 r0 r1 r2 r3 r4 r5
  refine anyG_two 2 6 _ _ (by kernel_rfl) rfl rfl ?_ ?_
  · intro V hG hb
    replace B := B.trans ((of_drew hb).mono B.size)
    replace hv1 := hv1.far (of_drew hb)
    replace hv2 := hv2.far (of_drew hb)
    clear hb
    go_wp2_with fail
    refine (wideOf_any (-1) 1 hV1 _).mono ?_
    rintro x U ⟨va, rfl, ha, hb⟩
    replace B := B.trans (hb.mono B.size)
    replace hv1 := hv1.far hb
    replace hv2 := hv2.far hb
    replace hG := gr_step hG hb
    clear hb 
    go_wp2
    try refine ⟨hG, ?_⟩
    clear hG
    refine anyG_two 4 6 _ _ (by kernel_rfl) rfl rfl ?_ ?_
    · intro V hG hb
      replace B := B.trans (hb.mono B.size)
      replace hv1 := hv1.far hb
      replace hv2 := hv2.far hb
      replace ha := ha.far hb
      clear hb
      go_wp2_with fail
      refine (wmul_any _ _ _ _ _ _ _ _ _ ha hv2 (by omega) b2 (by omega) (by omega) (by omega) (by omega)).mono ?_
      rintro x U ⟨vb, rfl, hm, hb⟩
      replace B := B.trans (hb.mono B.size)
      replace hv1 := hv1.far hb
      replace hG := gr_step hG hb
      clear hb hv2 ha
      go_wp2
      try refine ⟨hG, ?_⟩
      clear hG
      refine anyG_two 5 6 _ _ (by kernel_rfl) rfl rfl ?_ ?_
      · intro V hG hb
        replace B := B.trans (hb.mono B.size)
        replace hv1 := hv1.far hb
        replace hm := hm.far hb
        clear hb
        go_wp2_with fail
        refine (wadd_any _ _ _ _ _ _ _ _ _ hv1 hm b1 (by omega) (by omega) (by omega) (by omega) (by omega)).mono ?_
        rintro x U ⟨vc, rfl, hd5, hb⟩
        replace B := B.trans (hb.mono B.size)
        replace hG := gr_step hG hb
        clear hb hv1 hm
        go_wp2
        try refine ⟨hG, ?_⟩
        clear hG
        refine anyG_one 6 _ (by kernel_rfl) rfl ?_
        intro V hG hb
        replace B := B.trans (hb.mono B.size)
        replace hd5 := hd5.far hb
        clear hb
        have hz4 := hG.size
        have A5 := DL.new V [.bool false, .slice none 0 0, .slice none 0 0, .bool false, .int .i64 0, .int .i64 0] 115
        have hbA := (Below.refl V.heap.size V).alloc (Nat.le_refl _) (.cells ([.bool false, .slice none 0 0, .slice none 0 0, .bool false, .int .i64 0, .int .i64 0] : List Value).toArray 115)
        replace B := B.trans (hbA.mono B.size)
        replace hd5 := hd5.far hbA
        have hG5 := gr_alloc hG (.cells ([.bool false, .slice none 0 0, .slice none 0 0, .bool false, .int .i64 0, .int .i64 0] : List Value).toArray 115)
        clear hbA hG
        go_wp2
        try refine ⟨hG5, ?_⟩
        clear hG5
        generalize V.alloc (.cells _ _) = V5 at *
        generalize V.heap.size = b5 at *
        refine anyG_one 7 _ (by kernel_rfl) rfl ?_
        intro V6 hG hb
        replace A5 := A5.far hb
        replace B := B.trans (hb.mono B.size)
        replace hd5 := hd5.far hb
        clear hb
        have HD5 := Lib.hid hd5
        obtain ⟨s, g1, l1, c1, N', g2, l2, c2, D', fine, fn', fd', rfl, hWc, hE⟩ := hd5
        have hl1 := hWc.1.pos
        have HE := Lib.hid hE
        have hD0 := hWc.2.2.1
        clear hWc hE
        have hzb : w.heap.size ≤ b5 := by
          have : w1.heap.size ≤ b5 := hz4
          omega
        obtain ⟨⟨k0, k1, k2, k3, k4, k5⟩, f0, f1', f2', f3, f4, f5⟩ := A5.six
        have HP := A5.put6 (.bool s) (.slice (some ⟨g1, 0, none⟩) l1 c1) (.slice (some ⟨g2, 0, none⟩) l2 c2) (.bool fine) (.int .i64 fn') (.int .i64 fd')
        have HB9 := below_put6 B hzb (.bool s) (.slice (some ⟨g1, 0, none⟩) l1 c1) (.slice (some ⟨g2, 0, none⟩) l2 c2) (.bool fine) (.int .i64 fn') (.int .i64 fd')
        have HG9 := gr_put6 hG (.inr hz4) (.bool s) (.slice (some ⟨g1, 0, none⟩) l1 c1) (.slice (some ⟨g2, 0, none⟩) l2 c2) (.bool fine) (.int .i64 fn') (.int .i64 fd')
        clear A5 B hG HD5
        go_wp2
        try refine ⟨HG9, ?_⟩
        refine anyG_done (by kernel_rfl) ?_
        clear HG9 k0 k1 k2 k3 k4 k5 f0 f1' f2' f3 f4 f5
        unfold put6 at HP HB9
        generalize World.setCell _ ⟨b5, 5, none⟩ _ = V at HP HB9 ⊢
        intro V9 hG hb
        replace HP := HP.far hb
        replace HB9 := HB9.trans (hb.mono HB9.size)
        clear hG hb
        obtain ⟨⟨k0, k1, k2, k3, k4, k5⟩, _⟩ := HP.six
        have key : sg s * (N' : Int) * (Q * S) = (P * S - R * Q) * D' := by
          have := HE.out
          clear HP HB9 k0 k1 k2 k3 k4 k5
          grind
        have hQS := Int.mul_pos hQ hS
        have hDI : (0 : Int) < D' := by omega
        rcases Nat.eq_zero_or_pos l1 with h0 | h0
        · have hN0 : N' = 0 := by omega
          have hr : ci (P * S) (R * Q) = 0 := by
            rw [hN0] at key
            have h3 : (P * S - R * Q) * (D' : Int) = 0 := by rw [← key]; simp
            have h4 : P * S - R * Q = 0 := by
              rcases Int.mul_eq_zero.1 h3 with h | h
              · exact h
              · omega
            unfold ci
            rw [if_pos (by omega)]
          have HR9 := Lib.hid hr
          subst h0
          clear key hr HE
          go_wp2
          go_ret
          exact ⟨by rw [HR9.out]; rfl, HB9⟩
        · have hN0 : 0 < N' := by omega
          have hl0 : ¬ l1 = 0 := by omega
          have hl0I : ((l1 : Int) == 0) = false := by simp; omega
          have hpos := Int.mul_pos (show (0 : Int) < N' by omega) hQS
          cases s
          · have hr : ci (P * S) (R * Q) = 1 := by
              have k1 : sg false = 1 := rfl
              rw [k1, Int.one_mul] at key
              have h4 : 0 < P * S - R * Q := by
                apply Int.lt_of_not_ge
                intro hle
                have := Int.mul_nonpos_of_nonpos_of_nonneg hle (show (0 : Int) ≤ D' by omega)
                omega
              unfold ci
              rw [if_neg (by omega), if_neg (by omega)]
            have HR9 := Lib.hid hr
            clear key hr HE hpos
            go_wp2
            go_ret
            exact ⟨by rw [HR9.out]; rfl, HB9⟩
          · have hr : ci (P * S) (R * Q) = -1 := by
              have k1 : sg true = -1 := rfl
              rw [k1] at key
              have h4 : P * S - R * Q < 0 := by
                apply Int.lt_of_not_ge
                intro hle
                have := Int.mul_nonneg (show 0 ≤ P * S - R * Q by omega) (show (0 : Int) ≤ D' by omega)
                rw [← key] at this
                have e : -1 * (N' : Int) * (Q * S) = - ((N' : Int) * (Q * S)) := by grind
                omega
              unfold ci
              rw [if_neg (by omega), if_pos (by omega)]
            have HR9 := Lib.hid hr
            clear key hr HE hpos
            go_wp2
            go_ret
            exact ⟨by rw [HR9.out]; rfl, HB9⟩
      · intro V hG hb
        replace B := B.trans (hb.mono B.size)
        replace hv1 := hv1.far hb
        replace hm := hm.far hb
        clear hb
        have hz4 := hG.size
        have A5 := DL.new V [.bool false, .slice none 0 0, .slice none 0 0, .bool false, .int .i64 0, .int .i64 0] 115
        have hbA := (Below.refl V.heap.size V).alloc (Nat.le_refl _) (.cells ([.bool false, .slice none 0 0, .slice none 0 0, .bool false, .int .i64 0, .int .i64 0] : List Value).toArray 115)
        replace B := B.trans (hbA.mono B.size)
        replace hv1 := hv1.far hbA
        replace hm := hm.far hbA
        have hG5 := gr_alloc hG (.cells ([.bool false, .slice none 0 0, .slice none 0 0, .bool false, .int .i64 0, .int .i64 0] : List Value).toArray 115)
        clear hbA hG
        go_wp2
        try refine ⟨hG5, ?_⟩
        clear hG5
        generalize V.alloc (.cells _ _) = V5 at *
        generalize V.heap.size = b5 at *
        refine anyG_one 5 _ (by kernel_rfl) rfl ?_
        intro V hG hb
        replace B := B.trans (hb.mono B.size)
        replace hv1 := hv1.far hb
        replace hm := hm.far hb
        replace A5 := A5.far hb
        clear hb
        go_wp2_with fail
        refine (wadd_any _ _ _ _ _ _ _ _ _ hv1 hm b1 (by omega) (by omega) (by omega) (by omega) (by omega)).mono ?_
        rintro x U ⟨vc, rfl, hd5, hb⟩
        replace B := B.trans (hb.mono B.size)
        replace A5 := A5.far hb
        replace hG := gr_step hG hb
        clear hb hv1 hm
        go_wp2
        try refine ⟨hG, ?_⟩
        clear hG
        refine anyG_one 7 _ (by kernel_rfl) rfl ?_
        intro V6 hG hb
        replace A5 := A5.far hb
        replace B := B.trans (hb.mono B.size)
        replace hd5 := hd5.far hb
        clear hb
        have HD5 := Lib.hid hd5
        obtain ⟨s, g1, l1, c1, N', g2, l2, c2, D', fine, fn', fd', rfl, hWc, hE⟩ := hd5
        have hl1 := hWc.1.pos
        have HE := Lib.hid hE
        have hD0 := hWc.2.2.1
        clear hWc hE
        have hzb : w.heap.size ≤ b5 := by
          have : w1.heap.size ≤ b5 := hz4
          omega
        obtain ⟨⟨k0, k1, k2, k3, k4, k5⟩, f0, f1', f2', f3, f4, f5⟩ := A5.six
        have HP := A5.put6 (.bool s) (.slice (some ⟨g1, 0, none⟩) l1 c1) (.slice (some ⟨g2, 0, none⟩) l2 c2) (.bool fine) (.int .i64 fn') (.int .i64 fd')
        have HB9 := below_put6 B hzb (.bool s) (.slice (some ⟨g1, 0, none⟩) l1 c1) (.slice (some ⟨g2, 0, none⟩) l2 c2) (.bool fine) (.int .i64 fn') (.int .i64 fd')
        have HG9 := gr_put6 hG (.inr hz4) (.bool s) (.slice (some ⟨g1, 0, none⟩) l1 c1) (.slice (some ⟨g2, 0, none⟩) l2 c2) (.bool fine) (.int .i64 fn') (.int .i64 fd')
        clear A5 B hG HD5
        go_wp2
        try refine ⟨HG9, ?_⟩
        refine anyG_done (by kernel_rfl) ?_
        clear HG9 k0 k1 k2 k3 k4 k5 f0 f1' f2' f3 f4 f5
        unfold put6 at HP HB9
        generalize World.setCell _ ⟨b5, 5, none⟩ _ = V at HP HB9 ⊢
        intro V9 hG hb
        replace HP := HP.far hb
        replace HB9 := HB9.trans (hb.mono HB9.size)
        clear hG hb
        obtain ⟨⟨k0, k1, k2, k3, k4, k5⟩, _⟩ := HP.six
        have key : sg s * (N' : Int) * (Q * S) = (P * S - R * Q) * D' := by
          have := HE.out
          clear HP HB9 k0 k1 k2 k3 k4 k5
          grind
        have hQS := Int.mul_pos hQ hS
        have hDI : (0 : Int) < D' := by omega
        rcases Nat.eq_zero_or_pos l1 with h0 | h0
        · have hN0 : N' = 0 := by omega
          have hr : ci (P * S) (R * Q) = 0 := by
            rw [hN0] at key
            have h3 : (P * S - R * Q) * (D' : Int) = 0 := by rw [← key]; simp
            have h4 : P * S - R * Q = 0 := by
              rcases Int.mul_eq_zero.1 h3 with h | h
              · exact h
              · omega
            unfold ci
            rw [if_pos (by omega)]
          have HR9 := Lib.hid hr
          subst h0
          clear key hr HE
          go_wp2
          go_ret
          exact ⟨by rw [HR9.out]; rfl, HB9⟩
        · have hN0 : 0 < N' := by omega
          have hl0 : ¬ l1 = 0 := by omega
          have hl0I : ((l1 : Int) == 0) = false := by simp; omega
          have hpos := Int.mul_pos (show (0 : Int) < N' by omega) hQS
          cases s
          · have hr : ci (P * S) (R * Q) = 1 := by
              have k1 : sg false = 1 := rfl
              rw [k1, Int.one_mul] at key
              have h4 : 0 < P * S - R * Q := by
                apply Int.lt_of_not_ge
                intro hle
                have := Int.mul_nonpos_of_nonpos_of_nonneg hle (show (0 : Int) ≤ D' by omega)
                omega
              unfold ci
              rw [if_neg (by omega), if_neg (by omega)]
            have HR9 := Lib.hid hr
            clear key hr HE hpos
            go_wp2
            go_ret
            exact ⟨by rw [HR9.out]; rfl, HB9⟩
          · have hr : ci (P * S) (R * Q) = -1 := by
              have k1 : sg true = -1 := rfl
              rw [k1] at key
              have h4 : P * S - R * Q < 0 := by
                apply Int.lt_of_not_ge
                intro hle
                have := Int.mul_nonneg (show 0 ≤ P * S - R * Q by omega) (show (0 : Int) ≤ D' by omega)
                rw [← key] at this
                have e : -1 * (N' : Int) * (Q * S) = - ((N' : Int) * (Q * S)) := by grind
                omega
              unfold ci
              rw [if_neg (by omega), if_pos (by omega)]
            have HR9 := Lib.hid hr
            clear key hr HE hpos
            go_wp2
            go_ret
            exact ⟨by rw [HR9.out]; rfl, HB9⟩
    · intro V hG hb
      replace B := B.trans (hb.mono B.size)
      replace hv1 := hv1.far hb
      replace hv2 := hv2.far hb
      replace ha := ha.far hb
      clear hb
      have hz4 := hG.size
      have A5 := DL.new V [.bool false, .slice none 0 0, .slice none 0 0, .bool false, .int .i64 0, .int .i64 0] 115
      have hbA := (Below.refl V.heap.size V).alloc (Nat.le_refl _) (.cells ([.bool false, .slice none 0 0, .slice none 0 0, .bool false, .int .i64 0, .int .i64 0] : List Value).toArray 115)
      replace B := B.trans (hbA.mono B.size)
      replace hv1 := hv1.far hbA
      replace hv2 := hv2.far hbA
      replace ha := ha.far hbA
      have hG5 := gr_alloc hG (.cells ([.bool false, .slice none 0 0, .slice none 0 0, .bool false, .int .i64 0, .int .i64 0] : List Value).toArray 115)
      clear hbA hG
      go_wp2
      try refine ⟨hG5, ?_⟩
      clear hG5
      generalize V.alloc (.cells _ _) = V5 at *
      generalize V.heap.size = b5 at *
      refine anyG_one 4 _ (by kernel_rfl) rfl ?_
      intro V hG hb
      replace B := B.trans (hb.mono B.size)
      replace hv1 := hv1.far hb
      replace hv2 := hv2.far hb
      replace ha := ha.far hb
      replace A5 := A5.far hb
      clear hb
      go_wp2_with fail
      refine (wmul_any _ _ _ _ _ _ _ _ _ ha hv2 (by omega) b2 (by omega) (by omega) (by omega) (by omega)).mono ?_
      rintro x U ⟨vb, rfl, hm, hb⟩
      replace B := B.trans (hb.mono B.size)
      replace hv1 := hv1.far hb
      replace A5 := A5.far hb
      replace hG := gr_step hG hb
      clear hb hv2 ha
      go_wp2
      try refine ⟨hG, ?_⟩
      clear hG
      refine anyG_one 5 _ (by kernel_rfl) rfl ?_
      intro V hG hb
      replace B := B.trans (hb.mono B.size)
      replace hv1 := hv1.far hb
      replace hm := hm.far hb
      replace A5 := A5.far hb
      clear hb
      go_wp2_with fail
      refine (wadd_any _ _ _ _ _ _ _ _ _ hv1 hm b1 (by omega) (by omega) (by omega) (by omega) (by omega)).mono ?_
      rintro x U ⟨vc, rfl, hd5, hb⟩
      replace B := B.trans (hb.mono B.size)
      replace A5 := A5.far hb
      replace hG := gr_step hG hb
      clear hb hv1 hm
      go_wp2
      try refine ⟨hG, ?_⟩
      clear hG
      refine anyG_one 7 _ (by kernel_rfl) rfl ?_
      intro V6 hG hb
      replace A5 := A5.far hb
      replace B := B.trans (hb.mono B.size)
      replace hd5 := hd5.far hb
      clear hb
      have HD5 := Lib.hid hd5
      obtain ⟨s, g1, l1, c1, N', g2, l2, c2, D', fine, fn', fd', rfl, hWc, hE⟩ := hd5
      have hl1 := hWc.1.pos
      have HE := Lib.hid hE
      have hD0 := hWc.2.2.1
      clear hWc hE
      have hzb : w.heap.size ≤ b5 := by
        have : w1.heap.size ≤ b5 := hz4
        omega
      obtain ⟨⟨k0, k1, k2, k3, k4, k5⟩, f0, f1', f2', f3, f4, f5⟩ := A5.six
      have HP := A5.put6 (.bool s) (.slice (some ⟨g1, 0, none⟩) l1 c1) (.slice (some ⟨g2, 0, none⟩) l2 c2) (.bool fine) (.int .i64 fn') (.int .i64 fd')
      have HB9 := below_put6 B hzb (.bool s) (.slice (some ⟨g1, 0, none⟩) l1 c1) (.slice (some ⟨g2, 0, none⟩) l2 c2) (.bool fine) (.int .i64 fn') (.int .i64 fd')
      have HG9 := gr_put6 hG (.inr hz4) (.bool s) (.slice (some ⟨g1, 0, none⟩) l1 c1) (.slice (some ⟨g2, 0, none⟩) l2 c2) (.bool fine) (.int .i64 fn') (.int .i64 fd')
      clear A5 B hG HD5
      go_wp2
      try refine ⟨HG9, ?_⟩
      refine anyG_done (by kernel_rfl) ?_
      clear HG9 k0 k1 k2 k3 k4 k5 f0 f1' f2' f3 f4 f5
      unfold put6 at HP HB9
      generalize World.setCell _ ⟨b5, 5, none⟩ _ = V at HP HB9 ⊢
      intro V9 hG hb
      replace HP := HP.far hb
      replace HB9 := HB9.trans (hb.mono HB9.size)
      clear hG hb
      obtain ⟨⟨k0, k1, k2, k3, k4, k5⟩, _⟩ := HP.six
      have key : sg s * (N' : Int) * (Q * S) = (P * S - R * Q) * D' := by
        have := HE.out
        clear HP HB9 k0 k1 k2 k3 k4 k5
        grind
      have hQS := Int.mul_pos hQ hS
      have hDI : (0 : Int) < D' := by omega
      rcases Nat.eq_zero_or_pos l1 with h0 | h0
      · have hN0 : N' = 0 := by omega
        have hr : ci (P * S) (R * Q) = 0 := by
          rw [hN0] at key
          have h3 : (P * S - R * Q) * (D' : Int) = 0 := by rw [← key]; simp
          have h4 : P * S - R * Q = 0 := by
            rcases Int.mul_eq_zero.1 h3 with h | h
            · exact h
            · omega
          unfold ci
          rw [if_pos (by omega)]
        have HR9 := Lib.hid hr
        subst h0
        clear key hr HE
        go_wp2
        go_ret
        exact ⟨by rw [HR9.out]; rfl, HB9⟩
      · have hN0 : 0 < N' := by omega
        have hl0 : ¬ l1 = 0 := by omega
        have hl0I : ((l1 : Int) == 0) = false := by simp; omega
        have hpos := Int.mul_pos (show (0 : Int) < N' by omega) hQS
        cases s
        · have hr : ci (P * S) (R * Q) = 1 := by
            have k1 : sg false = 1 := rfl
            rw [k1, Int.one_mul] at key
            have h4 : 0 < P * S - R * Q := by
              apply Int.lt_of_not_ge
              intro hle
              have := Int.mul_nonpos_of_nonpos_of_nonneg hle (show (0 : Int) ≤ D' by omega)
              omega
            unfold ci
            rw [if_neg (by omega), if_neg (by omega)]
          have HR9 := Lib.hid hr
          clear key hr HE hpos
          go_wp2
          go_ret
          exact ⟨by rw [HR9.out]; rfl, HB9⟩
        · have hr : ci (P * S) (R * Q) = -1 := by
            have k1 : sg true = -1 := rfl
            rw [k1] at key
            have h4 : P * S - R * Q < 0 := by
              apply Int.lt_of_not_ge
              intro hle
              have := Int.mul_nonneg (show 0 ≤ P * S - R * Q by omega) (show (0 : Int) ≤ D' by omega)
              rw [← key] at this
              have e : -1 * (N' : Int) * (Q * S) = - ((N' : Int) * (Q * S)) := by grind
              omega
            unfold ci
            rw [if_neg (by omega), if_pos (by omega)]
          have HR9 := Lib.hid hr
          clear key hr HE hpos
          go_wp2
          go_ret
          exact ⟨by rw [HR9.out]; rfl, HB9⟩
  · intro V hG hb
    replace B := B.trans ((of_drew hb).mono B.size)
    replace hv1 := hv1.far (of_drew hb)
    replace hv2 := hv2.far (of_drew hb)
    clear hb
    have hz4 := hG.size
    have A5 := DL.new V [.bool false, .slice none 0 0, .slice none 0 0, .bool false, .int .i64 0, .int .i64 0] 115
    have hbA := (Below.refl V.heap.size V).alloc (Nat.le_refl _) (.cells ([.bool false, .slice none 0 0, .slice none 0 0, .bool false, .int .i64 0, .int .i64 0] : List Value).toArray 115)
    replace B := B.trans (hbA.mono B.size)
    replace hv1 := hv1.far hbA
    replace hv2 := hv2.far hbA
    have hG5 := gr_alloc hG (.cells ([.bool false, .slice none 0 0, .slice none 0 0, .bool false, .int .i64 0, .int .i64 0] : List Value).toArray 115)
    clear hbA hG
    go_wp2
    try refine ⟨hG5, ?_⟩
    clear hG5
    generalize V.alloc (.cells _ _) = V5 at *
    generalize V.heap.size = b5 at *
    refine anyG_one 2 _ (by kernel_rfl) rfl ?_
    intro V hG hb
    replace B := B.trans (hb.mono B.size)
    replace hv1 := hv1.far hb
    replace hv2 := hv2.far hb
    replace A5 := A5.far hb
    clear hb
    go_wp2_with fail
    refine (wideOf_any (-1) 1 hV1 _).mono ?_
    rintro x U ⟨va, rfl, ha, hb⟩
    replace B := B.trans (hb.mono B.size)
    replace hv1 := hv1.far hb
    replace hv2 := hv2.far hb
    replace A5 := A5.far hb
    replace hG := gr_step hG hb
    clear hb 
    go_wp2
    try refine ⟨hG, ?_⟩
    clear hG
    refine anyG_one 4 _ (by kernel_rfl) rfl ?_
    intro V hG hb
    replace B := B.trans (hb.mono B.size)
    replace hv1 := hv1.far hb
    replace hv2 := hv2.far hb
    replace ha := ha.far hb
    replace A5 := A5.far hb
    clear hb
    go_wp2_with fail
    refine (wmul_any _ _ _ _ _ _ _ _ _ ha hv2 (by omega) b2 (by omega) (by omega) (by omega) (by omega)).mono ?_
    rintro x U ⟨vb, rfl, hm, hb⟩
    replace B := B.trans (hb.mono B.size)
    replace hv1 := hv1.far hb
    replace A5 := A5.far hb
    replace hG := gr_step hG hb
    clear hb hv2 ha
    go_wp2
    try refine ⟨hG, ?_⟩
    clear hG
    refine anyG_one 5 _ (by kernel_rfl) rfl ?_
    intro V hG hb
    replace B := B.trans (hb.mono B.size)
    replace hv1 := hv1.far hb
    replace hm := hm.far hb
    replace A5 := A5.far hb
    clear hb
    go_wp2_with fail
    refine (wadd_any _ _ _ _ _ _ _ _ _ hv1 hm b1 (by omega) (by omega) (by omega) (by omega) (by omega)).mono ?_
    rintro x U ⟨vc, rfl, hd5, hb⟩
    replace B := B.trans (hb.mono B.size)
    replace A5 := A5.far hb
    replace hG := gr_step hG hb
    clear hb hv1 hm
    go_wp2
    try refine ⟨hG, ?_⟩
    clear hG
    refine anyG_one 7 _ (by kernel_rfl) rfl ?_
    intro V6 hG hb
    replace A5 := A5.far hb
    replace B := B.trans (hb.mono B.size)
    replace hd5 := hd5.far hb
    clear hb
    have HD5 := Lib.hid hd5
    obtain ⟨s, g1, l1, c1, N', g2, l2, c2, D', fine, fn', fd', rfl, hWc, hE⟩ := hd5
    have hl1 := hWc.1.pos
    have HE := Lib.hid hE
    have hD0 := hWc.2.2.1
    clear hWc hE
    have hzb : w.heap.size ≤ b5 := by
      have : w1.heap.size ≤ b5 := hz4
      omega
    obtain ⟨⟨k0, k1, k2, k3, k4, k5⟩, f0, f1', f2', f3, f4, f5⟩ := A5.six
    have HP := A5.put6 (.bool s) (.slice (some ⟨g1, 0, none⟩) l1 c1) (.slice (some ⟨g2, 0, none⟩) l2 c2) (.bool fine) (.int .i64 fn') (.int .i64 fd')
    have HB9 := below_put6 B hzb (.bool s) (.slice (some ⟨g1, 0, none⟩) l1 c1) (.slice (some ⟨g2, 0, none⟩) l2 c2) (.bool fine) (.int .i64 fn') (.int .i64 fd')
    have HG9 := gr_put6 hG (.inr hz4) (.bool s) (.slice (some ⟨g1, 0, none⟩) l1 c1) (.slice (some ⟨g2, 0, none⟩) l2 c2) (.bool fine) (.int .i64 fn') (.int .i64 fd')
    clear A5 B hG HD5
    go_wp2
    try refine ⟨HG9, ?_⟩
    refine anyG_done (by kernel_rfl) ?_
    clear HG9 k0 k1 k2 k3 k4 k5 f0 f1' f2' f3 f4 f5
    unfold put6 at HP HB9
    generalize World.setCell _ ⟨b5, 5, none⟩ _ = V at HP HB9 ⊢
    intro V9 hG hb
    replace HP := HP.far hb
    replace HB9 := HB9.trans (hb.mono HB9.size)
    clear hG hb
    obtain ⟨⟨k0, k1, k2, k3, k4, k5⟩, _⟩ := HP.six
    have key : sg s * (N' : Int) * (Q * S) = (P * S - R * Q) * D' := by
      have := HE.out
      clear HP HB9 k0 k1 k2 k3 k4 k5
      grind
    have hQS := Int.mul_pos hQ hS
    have hDI : (0 : Int) < D' := by omega
    rcases Nat.eq_zero_or_pos l1 with h0 | h0
    · have hN0 : N' = 0 := by omega
      have hr : ci (P * S) (R * Q) = 0 := by
        rw [hN0] at key
        have h3 : (P * S - R * Q) * (D' : Int) = 0 := by rw [← key]; simp
        have h4 : P * S - R * Q = 0 := by
          rcases Int.mul_eq_zero.1 h3 with h | h
          · exact h
          · omega
        unfold ci
        rw [if_pos (by omega)]
      have HR9 := Lib.hid hr
      subst h0
      clear key hr HE
      go_wp2
      go_ret
      exact ⟨by rw [HR9.out]; rfl, HB9⟩
    · have hN0 : 0 < N' := by omega
      have hl0 : ¬ l1 = 0 := by omega
      have hl0I : ((l1 : Int) == 0) = false := by simp; omega
      have hpos := Int.mul_pos (show (0 : Int) < N' by omega) hQS
      cases s
      · have hr : ci (P * S) (R * Q) = 1 := by
          have k1 : sg false = 1 := rfl
          rw [k1, Int.one_mul] at key
          have h4 : 0 < P * S - R * Q := by
            apply Int.lt_of_not_ge
            intro hle
            have := Int.mul_nonpos_of_nonpos_of_nonneg hle (show (0 : Int) ≤ D' by omega)
            omega
          unfold ci
          rw [if_neg (by omega), if_neg (by omega)]
        have HR9 := Lib.hid hr
        clear key hr HE hpos
        go_wp2
        go_ret
        exact ⟨by rw [HR9.out]; rfl, HB9⟩
      · have hr : ci (P * S) (R * Q) = -1 := by
          have k1 : sg true = -1 := rfl
          rw [k1] at key
          have h4 : P * S - R * Q < 0 := by
            apply Int.lt_of_not_ge
            intro hle
            have := Int.mul_nonneg (show 0 ≤ P * S - R * Q by omega) (show (0 : Int) ≤ D' by omega)
            rw [← key] at this
            have e : -1 * (N' : Int) * (Q * S) = - ((N' : Int) * (Q * S)) := by grind
            omega
          unfold ci
          rw [if_neg (by omega), if_pos (by omega)]
        have HR9 := Lib.hid hr
        clear key hr HE hpos
        go_wp2
        go_ret
        exact ⟨by rw [HR9.out]; rfl, HB9⟩
end Go.Proofs.Ytmnnpkmjamhmcab

namespace Go.Proofs.Ytmnnpkmjamhmcab
open Go.RowKit Go.PlainAid
set_option maxHeartbeats 1600000
set_option maxRecDepth 20000

/-- fractions that are chances -/
def IsCh (xs : List (Int × Int)) : Prop := 1 ≤ xs.length ∧ xs.length ≤ 16 ∧ AllVF xs ∧ (∀ i, i < xs.length → 0 ≤ (xs.getD i (0, 1)).1) ∧ (rats (fun i => xs.getD i (0, 1)) xs.length).1 = (rats (fun i => xs.getD i (0, 1)) xs.length).2
theorem rats_pos {p : Nat → Int × Int} {k : Nat} (h : ∀ i, i < k → 0 < (p i).2) : 0 < (rats p k).2 := by
  induction k with
  | zero => show (0 : Int) < 1; decide
  | succ k ih => exact Int.mul_pos (ih fun i hi => h i (by omega)) (h k (by omega))
theorem AllVF.getD {xs : List (Int × Int)} (h : AllVF xs) {i : Nat} (hi : i < xs.length) : VF (xs.getD i (0, 1)).1 (xs.getD i (0, 1)).2 := by
  rw [List.getD_eq_getElem?_getD, List.getElem?_eq_getElem hi]
  exact h _ (List.getElem_mem hi)
theorem is_any (a : Option Addr) (n cap : Nat) (xs : List (Int × Int)) (w : World) (hx : FIn w a n xs) (hn : n ≤ 1048576) (b : Bool) (hb : b = true ↔ IsCh xs) :
    Calls Try.prog 80 #[.slice a n cap] w fun e w' => e = .returned (.bool b) ∧ Below w.heap.size w w' := by
  have HX := Lib.hid hx
  have hl := hx.1
  have HB := Lib.hid hb
  clear hx hb
  by_cases h1 : 1 ≤ n ∧ n ≤ 16
  · obtain ⟨h1a, h1b⟩ := h1
    by_cases h2 : AllVF xs
    · have HA := Lib.hid h2
      have HF := Lib.hid ((fall_any a n cap xs w HX.out hn).1 h2)
      clear h2
      go_enter Try.func80, Try.ntmps80
      go_wp2_with (go_at_call 128; with_reducible refine (HF.out).mono ?_; rintro e w1 ⟨rfl, hb1⟩)
      have HB1 := Lib.hid hb1
      clear hb1 HF
      go_loopw [3] (fun iv wr => ∃ k : Nat, k ≤ n ∧ iv = .int .i64 k ∧ Hid (∀ i, i < k → 0 ≤ (xs.getD i (0, 1)).1) ∧ Hid (Below w.heap.size w wr)) (fun iv _ => n - (intOf iv).toNat)
      case atStart => exact ⟨0, Nat.zero_le _, rfl, fun i hi => absurd hi (by omega), HB1⟩
      case round =>
        obtain ⟨k, hk, rfl, HP, HB2⟩ := hrel
        clear HB1
        by_cases hlt : k < n
        · obtain ⟨b', o, x, y, rfl, hxy, c0, c1, hadd⟩ := (HX.out.far HB2.out).at hlt
          have hgd : xs.getD k (0, 1) = (x, y) := by rw [List.getD_eq_getElem?_getD, hxy]; rfl
          by_cases hx0 : x < 0
          · have HR : Hid (b = false) := by
              unfold Hid
              rw [Bool.eq_false_iff]
              intro h
              have := (HB.out.1 h).2.2.2.1 k (by omega)
              rw [hgd] at this
              exact absurd hx0 (by simpa using this)
            clear hxy hgd HP
            go_wp2
            go_ret
            exact ⟨by rw [HR.out]; rfl, HB2.out⟩
          · have HP2 : Hid (∀ i, i < k + 1 → 0 ≤ (xs.getD i (0, 1)).1) := fun i hi => by
              by_cases e : i = k
              · subst e
                rw [hgd]
                exact Int.not_lt.1 hx0
              · exact HP.out i (by omega)
            clear hxy hgd HP
            go_wp2
            go_roundw
            case rel => exact ⟨k + 1, hlt, by go_num, HP2, HB2⟩
            case measure => simp [intOf]; omega
        · obtain rfl : k = n := by omega
          have hd2 : ∀ i, i < k → VF (xs.getD i (0, 1)).1 (xs.getD i (0, 1)).2 := fun i hi => HA.out.getD (by omega)
          have hQp := rats_pos (p := fun i => xs.getD i (0, 1)) (k := k) (fun i hi => by have := (hd2 i hi).1; omega)
          have hQn : ∀ i, i < k → ((fun i => xs.getD i (0, 1)) i).2 ≠ 0 := fun i hi => by have := (hd2 i hi).1; show (xs.getD i (0, 1)).2 ≠ 0; omega
          have hV1 : VF 1 1 := ⟨by decide, by decide, by decide, by decide, by decide⟩
          have HR : Hid (b = true ↔ (rats (fun i => xs.getD i (0, 1)) k).1 = (rats (fun i => xs.getD i (0, 1)) k).2) := by
            unfold Hid
            rw [HB.out]
            unfold IsCh
            rw [hl]
            exact ⟨fun h => h.2.2.2.2, fun h => ⟨h1a, h1b, HA.out, HP.out, h⟩⟩
          have hx2 := HX.out.far HB2.out
          clear HP
          go_wp2_with fail
          refine (wides_any a k cap xs wr hx2 (by omega) hd2).mono ?_
          rintro e w2 ⟨g, cp, F, rfl, hWL, hb⟩
          have B3 := HB2.out.trans (hb.mono HB2.out.size)
          clear hb hx2 hd2
          go_wp2_with fail
          refine (wsum_any g k cp F _ 60 w2 hWL (by omega) (by omega) (by omega) hQn).mono ?_
          rintro e w3 ⟨v, rfl, hS, hb⟩
          have B4 := B3.trans (hb.mono B3.size)
          clear hb hWL B3 hQn
          go_wp2_with fail
          refine (wideOf_any 1 1 hV1 _).mono ?_
          rintro e w4 ⟨v1, rfl, hO, hb⟩
          have B5 := B4.trans (hb.mono B4.size)
          replace hS := hS.far hb
          clear hb B4
          generalize (rats (fun i => xs.getD i (0, 1)) k).1 = P at hS HR
          generalize (rats (fun i => xs.getD i (0, 1)) k).2 = Q at hS HR hQp
          have hek : k * (60 + 1) ≤ 16 * 61 := Nat.mul_le_mul (by omega) (by omega)
          go_wp2_with fail
          refine (wcmp_any _ _ _ _ _ _ _ _ w4 hS hO (by omega) (by omega) (by omega) (by omega) hQp (by omega)).mono ?_
          rintro e w5 ⟨rfl, hb⟩
          have B6 := B5.trans (hb.mono B5.size)
          clear hb hS hO B5
          obtain ⟨t, ht⟩ : ∃ t, ci (P * 1) (1 * Q) = t := ⟨_, rfl⟩
          have htb : (t == 0) = b := by
            rw [← ht]
            unfold ci
            rw [Int.mul_one, Int.one_mul]
            by_cases e : P = Q
            · rw [if_pos e, HR.out.2 e]
              rfl
            · rw [if_neg e]
              have hbf : b = false := by
                rw [Bool.eq_false_iff]
                exact fun h => e (HR.out.1 h)
              rw [hbf]
              split <;> rfl
          rw [ht]
          clear ht HR
          go_wp2
          go_ret
          exact ⟨rfl, B6⟩
    · have HF := Lib.hid ((fall_any a n cap xs w HX.out hn).2 h2)
      have HR : Hid (b = false) := by
        unfold Hid
        rw [Bool.eq_false_iff]
        exact fun h => h2 (HB.out.1 h).2.2.1
      clear h2
      go_enter Try.func80, Try.ntmps80
      go_wp2_with (go_at_call 128; with_reducible refine (HF.out).mono ?_; rintro e w1 ⟨rfl, hb1⟩)
      go_ret
      exact ⟨by rw [HR.out]; rfl, hb1⟩
  · have HR : Hid (b = false) := by
      unfold Hid
      rw [Bool.eq_false_iff]
      intro h
      have := (HB.out.1 h).1
      have := (HB.out.1 h).2.1
      omega
    by_cases h0 : n < 1
    · go_enter Try.func80, Try.ntmps80
      go_wp2
      go_ret
      exact ⟨by rw [HR.out]; rfl, Below.refl _ _⟩
    · have h3 : 16 < n := by omega
      go_enter Try.func80, Try.ntmps80
      go_wp2
      go_ret
      exact ⟨by rw [HR.out]; rfl, Below.refl _ _⟩
/-- a list is a source of m bits, or of none and m is 0 -/
def SrcB (xs : List (Int × Int)) (m : Nat) : Prop := (1 ≤ m ∧ m ≤ 4 ∧ xs.length = 2 ^ m ∧ IsCh xs) ∨ (m = 0 ∧ ∀ k, 1 ≤ k → k ≤ 4 → xs.length = 2 ^ k → ¬ IsCh xs)
theorem bits_any (a : Option Addr) (n cap : Nat) (xs : List (Int × Int)) (w : World) (hx : FIn w a n xs) (hn : n ≤ 1048576) :
    Calls Try.prog 88 #[.slice a n cap] w fun e w' => ∃ m : Nat, e = .returned (.int .i64 m) ∧ SrcB xs m ∧ Below w.heap.size w w' := by
  have HX := Lib.hid hx
  have hl := hx.1
  clear hx
  obtain ⟨b, hb⟩ : ∃ b : Bool, b = true ↔ IsCh xs := by
    by_cases h : IsCh xs
    · exact ⟨true, by simp [h]⟩
    · exact ⟨false, by simp [h]⟩
  have HB := Lib.hid hb
  clear hb
  go_enter Try.func88, Try.ntmps88
  go_wp2
  go_loopw [3] (fun iv wr => ∃ k : Nat, 1 ≤ k ∧ k ≤ 5 ∧ iv = .int .i64 k ∧ Hid (∀ i, 1 ≤ i → i < k → xs.length = 2 ^ i → ¬ IsCh xs) ∧ Hid (Below w.heap.size w wr)) (fun iv _ => 5 - (intOf iv).toNat)
  case atStart => exact ⟨1, Nat.le_refl _, by omega, rfl, fun i h1 h2 => by omega, Below.refl _ _⟩
  case round =>
    obtain ⟨k, hk1, hk, rfl, HN, HB2⟩ := hrel
    by_cases hlt : k < 5
    · have X := is_any a n cap xs wr (HX.out.far HB2.out) hn b HB.out
      have HI := Lib.hid X
      clear X
      obtain ⟨K, hK⟩ : ∃ K : Nat, 2 ^ k = K := ⟨_, rfl⟩
      have hK2 : K ≤ 16 := by rw [← hK]; exact Nat.pow_le_pow_right (n := 2) (by omega) (show k ≤ 4 by omega)
      have hKI : (2 : Int) ^ k = K := by rw [← hK]; simp
      have hKW : wrap64 ((2 : Int) ^ k) = K := by rw [hKI]; exact IntWalk.wrap64_in _ (by omega)
      have hk4 : k ≤ 4 := by omega
      by_cases hnK : n = K
      · have hnb : ((n : Int) == (K : Int)) = true := by simp [hnK]
        have hlen : Hid (xs.length = 2 ^ k) := by unfold Hid; rw [hl, hnK, hK]
        clear hnK
        rcases b with _ | _
        · have HN2 : Hid (∀ i, 1 ≤ i → i < k + 1 → xs.length = 2 ^ i → ¬ IsCh xs) := fun i h1 h2 h3 h4 => by
            have := HB.out.2 h4
            cases this
          clear HN hK
          go_wp2_with (go_at_call 80; with_reducible refine (HI.out).mono ?_; rintro e w1 ⟨rfl, hb1⟩)
          go_roundw
          case rel => exact ⟨k + 1, by omega, by omega, by go_num, HN2, HB2.out.trans (hb1.mono HB2.out.size)⟩
          case measure => simp [intOf]; omega
        · have HS : Hid (SrcB xs k) := .inl ⟨hk1, hk4, hlen.out, HB.out.1 rfl⟩
          clear HN hK
          go_wp2_with (go_at_call 80; with_reducible refine (HI.out).mono ?_; rintro e w1 ⟨rfl, hb1⟩)
          go_ret
          exact ⟨k, rfl, HS.out, HB2.out.trans (hb1.mono HB2.out.size)⟩
      · have hnb : ((n : Int) == (K : Int)) = false := by simp; omega
        have HN2 : Hid (∀ i, 1 ≤ i → i < k + 1 → xs.length = 2 ^ i → ¬ IsCh xs) := fun i h1 h2 h3 => by
          by_cases e : i = k
          · subst e
            omega
          · exact HN.out i h1 (by omega) h3
        clear HN hK
        go_wp2
        go_roundw
        case rel => exact ⟨k + 1, by omega, by omega, by go_num, HN2, HB2⟩
        case measure => simp [intOf]; omega
    · obtain rfl : k = 5 := by omega
      have HS : Hid (SrcB xs 0) := .inr ⟨rfl, fun i h1 h2 h3 => HN.out i h1 (by omega) h3⟩
      rw [show ((5 : Nat) : Int) = 5 from rfl]
      clear HN
      go_wp2
      go_ret
      exact ⟨0, rfl, HS.out, HB2.out⟩
end Go.Proofs.Ytmnnpkmjamhmcab
