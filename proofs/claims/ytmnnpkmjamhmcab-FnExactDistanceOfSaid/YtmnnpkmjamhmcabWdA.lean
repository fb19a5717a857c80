/- Fractions of any size in the model: spec.l05WideAdd. -/
import Derived.Test.YtmnnpkmjamhmcabWdY
namespace Go.Proofs.Ytmnnpkmjamhmcab
open Go.RowKit Go.PlainAid
set_option maxHeartbeats 1600000
set_option maxRecDepth 20000

theorem wadd_any (v1 v2 : Value) (P Q R S : Int) (e1 e2 : Nat) (w : World) (h1 : Wd w v1 P Q e1) (h2 : Wd w v2 R S e2) (b1 : 60 ≤ e1) (b2 : 60 ≤ e2) (c1 : e1 ≤ 5000000) (c2 : e2 ≤ 5000000) (_hQ : Q ≠ 0) (_hS : S ≠ 0) :
    Calls Try.prog 132 #[v1, v2] w fun e w' => ∃ v, e = .returned v ∧ Wd w' v (P * S + R * Q) (Q * S) (e1 + e2 + 1) ∧ Below w.heap.size w w' := by
  obtain ⟨s1, ga, la, ca, N, gb, lb, cb, D, f1, fn, fd, rfl, hW1, hE1⟩ := h1
  obtain ⟨s2, gc, lc, cc, M, gd, ld, cd, E, f2, hn, hd, rfl, hW2, hE2⟩ := h2
  have HW1 := Lib.hid hW1
  have HW2 := Lib.hid hW2
  have HE1 := Lib.hid hE1
  have HE2 := Lib.hid hE2
  have hla := hW1.2.2.2.1.len30 (K := 200000) (by omega) hW1.1.2.1
  have hlb := hW1.2.2.2.2.1.len30 (K := 200000) (by omega) hW1.2.1.2.1
  have hlc := hW2.2.2.2.1.len30 (K := 200000) (by omega) hW2.1.2.1
  have hld := hW2.2.2.2.2.1.len30 (K := 200000) (by omega) hW2.2.1.2.1
  have hD0 := hW1.2.2.1
  have hE0 := hW2.2.2.1
  have HF : Hid (f1 = true → f2 = true → VF fn fd ∧ VF hn hd ∧ fn * Q = P * fd ∧ hn * S = R * hd) := fun q1 q2 => by
    obtain ⟨x1, x2, x3⟩ := hW1.2.2.2.2.2 q1
    obtain ⟨y1, y2, y3⟩ := hW2.2.2.2.2.2 q2
    exact ⟨x1, y1, by rw [x2, x3]; exact hE1, by rw [y2, y3]; exact hE2⟩
  clear hW1 hW2 hE1 hE2
  obtain ⟨A0, A1, A2, B⟩ := DL.three w (.bool s1) (.bool s2) (.bool false) [.slice (some ⟨ga, 0, none⟩) la ca, .slice (some ⟨gb, 0, none⟩) lb cb, .bool f1, .int .i64 fn, .int .i64 fd] [.slice (some ⟨gc, 0, none⟩) lc cc, .slice (some ⟨gd, 0, none⟩) ld cd, .bool f2, .int .i64 hn, .int .i64 hd] [.slice none 0 0, .slice none 0 0, .bool false, .int .i64 0, .int .i64 0] 115 115 115
  go_enter Try.func132, Try.ntmps132
  go_upto_region 1 with fail
  generalize ((w.alloc (.cells _ _)).alloc (.cells _ _)).alloc (.cells _ _) = w1 at A0 A1 A2 B ⊢
  by_cases q1 : f1 = true
  · subst q1
    by_cases q2 : f2 = true
    · subst q2
      obtain ⟨hv1, hv2, hq1, hq2⟩ := HF.out rfl rfl
      obtain ⟨⟨x0, x1, x2, x3, x4, x5⟩, _⟩ := A0.six
      obtain ⟨⟨y0, y1, y2, y3, y4, y5⟩, _⟩ := A1.six
      go_wp2_with fail
      refine (fadd_any fn fd hn hd hv1 hv2 _).mono ?_
      rintro e w2 ⟨n, d, ok, rfl, hv, hb⟩
      clear x0 x1 x2 x3 x4 x5 y0 y1 y2 y3 y4 y5
      replace A0 := A0.far hb
      replace A1 := A1.far hb
      replace A2 := A2.far hb
      replace B := B.trans (hb.mono B.size)
      clear hb
      have D5 := D2.new w2 (.int .i64 n) (.int .i64 d) 27
      replace A0 := A0.alloc (.cells #[.int .i64 n, .int .i64 d] 27)
      replace A1 := A1.alloc (.cells #[.int .i64 n, .int .i64 d] 27)
      replace A2 := A2.alloc (.cells #[.int .i64 n, .int .i64 d] 27)
      replace B := B.alloc B.size (.cells #[.int .i64 n, .int .i64 d] 27)
      rcases ok with _ | _
      · go_upto_region 5 with fail
        generalize w2.alloc (.cells #[.int .i64 n, .int .i64 d] 27) = w4 at A0 A1 A2 B ⊢
        clear D5 hv hq1 hq2 hv1 hv2
        have hx1 := HW1.out.far B
        have hx2 := HW2.out.far B
        obtain ⟨⟨x0, x1, x2, x3, x4, x5⟩, _⟩ := A0.six
        obtain ⟨⟨y0, y1, y2, y3, y4, y5⟩, _⟩ := A1.six
        go_wp2_with fail
        refine (btimes_any _ _ _ _ _ _ N E _ hx1.1 hx2.2.1 (by omega) (by omega)).mono ?_
        rintro e U1 ⟨g1, l1, p1, rfl, ha, hb⟩
        clear x0 x1 x2 x3 x4 x5 y0 y1 y2 y3 y4 y5
        replace A0 := A0.far hb
        replace A1 := A1.far hb
        replace A2 := A2.far hb
        replace hx1 := hx1.far hb
        replace hx2 := hx2.far hb
        replace B := B.trans (hb.mono B.size)
        clear hb
        obtain ⟨⟨x0, x1, x2, x3, x4, x5⟩, _⟩ := A0.six
        obtain ⟨⟨y0, y1, y2, y3, y4, y5⟩, _⟩ := A1.six
        go_wp2_with fail
        refine (btimes_any _ _ _ _ _ _ M D _ hx2.1 hx1.2.1 (by omega) (by omega)).mono ?_
        rintro e U2 ⟨g2, l2, p2, rfl, hc, hb⟩
        clear x0 x1 x2 x3 x4 x5 y0 y1 y2 y3 y4 y5
        replace A0 := A0.far hb
        replace A1 := A1.far hb
        replace A2 := A2.far hb
        replace hx1 := hx1.far hb
        replace hx2 := hx2.far hb
        replace ha := ha.far hb
        replace B := B.trans (hb.mono B.size)
        clear hb
        obtain ⟨⟨x0, x1, x2, x3, x4, x5⟩, _⟩ := A0.six
        obtain ⟨⟨y0, y1, y2, y3, y4, y5⟩, _⟩ := A1.six
        go_wp2_with fail
        refine (btimes_any _ _ _ _ _ _ D E _ hx1.2.1 hx2.2.1 (by omega) (by omega)).mono ?_
        rintro e U3 ⟨g3, l3, p3, rfl, hq, hb⟩
        clear x0 x1 x2 x3 x4 x5 y0 y1 y2 y3 y4 y5
        replace A0 := A0.far hb
        replace A1 := A1.far hb
        replace A2 := A2.far hb
        replace hx1 := hx1.far hb
        replace hx2 := hx2.far hb
        replace ha := ha.far hb
        replace hc := hc.far hb
        replace B := B.trans (hb.mono B.size)
        clear hb
        have hl1 := (hx1.2.2.2.1.mul hx2.2.2.2.2.1).len30 (K := 400000) (by omega) ha.2.1
        have hl2 := (hx2.2.2.2.1.mul hx1.2.2.2.2.1).len30 (K := 400000) (by omega) hc.2.1
        by_cases hss : s1 = s2
        · subst hss
          have hbe : (s1 == s1) = true := by simp
          obtain ⟨⟨x0, x1, x2, x3, x4, x5⟩, _⟩ := A0.six
          obtain ⟨⟨y0, y1, y2, y3, y4, y5⟩, _⟩ := A1.six
          go_upto_region 9 with fail
          clear x0 x1 x2 x3 x4 x5 y0 y1 y2 y3 y4 y5
          have qa0 := (A0.drew).gr (rw := some (w.heap.size + 1 + 1)) (fun e => by have := Option.some.inj e; omega) 0 rfl
          clear A0 A1
          refine wp_region_mix (some (w.heap.size + 1 + 1)) [0, 1, 2, 3, 5] [4, 6, 7] (by kernel_rfl) (by kernel_rfl) ?_
          simp only [pickOps, List.filterMap_cons, List.filterMap_nil, List.getElem?_toArray, List.getElem?_cons_succ, List.getElem?_cons_zero]
          repeat (refine wpQuietG_step (fun K hK => ?_); go_simp; first | (refine hK _ ?_; clear hK K) | (apply Exists.intro; refine ⟨fun _ => ?_, hK _ ?_⟩; (fail); clear hK K))
          refine wpQuietG_nil ?_
          clear qa0
          intro V1 hG hb
          replace A2 := A2.far (of_drew hb)
          replace B := B.trans ((of_drew hb).mono B.size)
          replace ha := ha.far (of_drew hb)
          replace hc := hc.far (of_drew hb)
          replace hq := hq.far (of_drew hb)
          clear hb
          go_wp2_with fail
          refine (bplus_any _ _ _ _ _ _ (N * E) (M * D) _ ha hc (by omega) (by omega)).mono ?_
          rintro e U4 ⟨g4, l4, p4, rfl, hr, hb⟩
          replace A2 := A2.far hb
          replace B := B.trans (hb.mono B.size)
          replace ha := ha.far hb
          replace hc := hc.far hb
          replace hq := hq.far hb
          replace hG := gr_step hG hb
          clear hb
          go_wp2
          try refine ⟨hG, ?_⟩
          clear hG
          intro V2 hG hb
          replace A2 := A2.far hb
          replace B := B.trans (hb.mono B.size)
          replace hq := hq.far hb
          replace hr := hr.far hb
          clear hb
          go_wp2
          try refine ⟨hG, ?_⟩
          clear hG
          intro V3 hG hb
          replace A2 := A2.far hb
          replace B := B.trans (hb.mono B.size)
          replace hq := hq.far hb
          replace hr := hr.far hb
          clear hb
          obtain ⟨⟨k0, k1, k2, k3, k4, k5⟩, f0, f1', f2', f3, f4, f5⟩ := A2.six
          have HV : Wd V3 (.agg #[.bool s1, .slice (some ⟨g4, 0, none⟩) l4 p4, .slice (some ⟨g3, 0, none⟩) l3 p3, .bool false, .int .i64 0, .int .i64 0]) (P * S + R * Q) (Q * S) (e1 + e2 + 1) := ⟨s1, g4, l4, p4, N * E + M * D, g3, l3, p3, D * E, false, 0, 0, rfl, ⟨hr, hq, Nat.mul_pos hD0 hE0, ((hx1.2.2.2.1.mul hx2.2.2.2.2.1)).add ((hx2.2.2.2.1.mul hx1.2.2.2.2.1).up (by omega)), (hx1.2.2.2.2.1.mul hx2.2.2.2.2.1).up (by omega), fun h => by cases h⟩, by
            have a1 := HE1.out
            have a2 := HE2.out
            clear ha hc hr hq hx1 hx2 k0 k1 k2 k3 k4 k5 f0 f1' f2' f3 f4 f5
            push_cast
            grind⟩
          have HP := A2.put6 (.bool s1) (.slice (some ⟨g4, 0, none⟩) l4 p4) (.slice (some ⟨g3, 0, none⟩) l3 p3) (.bool false) (.int .i64 0) (.int .i64 0)
          have HB9 := below_put6 B (show w.heap.size ≤ w.heap.size + 1 + 1 by omega) (.bool s1) (.slice (some ⟨g4, 0, none⟩) l4 p4) (.slice (some ⟨g3, 0, none⟩) l3 p3) (.bool false) (.int .i64 0) (.int .i64 0)
          have HG9 := gr_put6 hG (.inl rfl) (.bool s1) (.slice (some ⟨g4, 0, none⟩) l4 p4) (.slice (some ⟨g3, 0, none⟩) l3 p3) (.bool false) (.int .i64 0) (.int .i64 0)
          have HWD := HV.kept6 k0 (.bool s1) (.slice (some ⟨g4, 0, none⟩) l4 p4) (.slice (some ⟨g3, 0, none⟩) l3 p3) (.bool false) (.int .i64 0) (.int .i64 0)
          clear A2 HV B hG ha hc hr hq hx1 hx2
          go_wp2
          refine ⟨HG9, ?_⟩
          clear HG9 k0 k1 k2 k3 k4 k5 f0 f1' f2' f3 f4 f5
          unfold put6 at HP HB9 HWD
          generalize World.setCell _ ⟨w.heap.size + 1 + 1, 5, none⟩ _ = V at HP HB9 HWD ⊢
          intro V9 hG hb
          replace HP := HP.far hb
          replace HB9 := HB9.trans (hb.mono HB9.size)
          replace HWD := HWD.far hb
          clear hG hb
          obtain ⟨⟨k0, k1, k2, k3, k4, k5⟩, _⟩ := HP.six
          go_wp2
          refine bodyPost_ret (v := .agg #[.bool s1, .slice (some ⟨g4, 0, none⟩) l4 p4, .slice (some ⟨g3, 0, none⟩) l3 p3, .bool false, .int .i64 0, .int .i64 0]) (by simp [results, Try.results132, go_sem, k0, k1, k2, k3, k4, k5]) rfl ⟨_, rfl, HWD, HB9⟩
        · have hbe : (s1 == s2) = false := by simpa using hss
          have hsg : sg s2 = - sg s1 := by
            clear HW1 HW2 HE1 HE2 HF A0 A1 A2 hx1 hx2
            cases s1 <;> cases s2 <;> first | (exact absurd rfl hss) | rfl
          obtain ⟨⟨x0, x1, x2, x3, x4, x5⟩, _⟩ := A0.six
          obtain ⟨⟨y0, y1, y2, y3, y4, y5⟩, _⟩ := A1.six
          go_wp2_with fail
          refine (bcmp_any _ _ _ _ _ _ (N * E) (M * D) _ ha hc (by omega)).mono ?_
          rintro e U5 ⟨rfl, hb⟩
          clear x0 x1 x2 x3 x4 x5 y0 y1 y2 y3 y4 y5
          replace A0 := A0.far hb
          replace A1 := A1.far hb
          replace A2 := A2.far hb
          replace hx1 := hx1.far hb
          replace hx2 := hx2.far hb
          replace ha := ha.far hb
          replace hc := hc.far hb
          replace hq := hq.far hb
          replace B := B.trans (hb.mono B.size)
          clear hb
          by_cases hcm : N * E < M * D
          · rw [c3_lt hcm]
            obtain ⟨kk, hkk⟩ : ∃ kk, M * D = N * E + kk := ⟨M * D - N * E, by omega⟩
            obtain ⟨⟨x0, x1, x2, x3, x4, x5⟩, _⟩ := A0.six
            obtain ⟨⟨y0, y1, y2, y3, y4, y5⟩, _⟩ := A1.six
            go_upto_region 11 with fail
            clear x0 x1 x2 x3 x4 x5 y0 y1 y2 y3 y4 y5
            have qb0 := (A1.drew).gr (rw := some (w.heap.size + 1 + 1)) (fun e => by have := Option.some.inj e; omega) 0 rfl
            clear A0 A1
            refine wp_region_mix (some (w.heap.size + 1 + 1)) [0, 1, 2, 3, 5] [4, 6, 7] (by kernel_rfl) (by kernel_rfl) ?_
            simp only [pickOps, List.filterMap_cons, List.filterMap_nil, List.getElem?_toArray, List.getElem?_cons_succ, List.getElem?_cons_zero]
            repeat (refine wpQuietG_step (fun K hK => ?_); go_simp; first | (refine hK _ ?_; clear hK K) | (apply Exists.intro; refine ⟨fun _ => ?_, hK _ ?_⟩; (fail); clear hK K))
            refine wpQuietG_nil ?_
            clear qb0
            intro V1 hG hb
            replace A2 := A2.far (of_drew hb)
            replace B := B.trans ((of_drew hb).mono B.size)
            replace ha := ha.far (of_drew hb)
            replace hc := hc.far (of_drew hb)
            replace hq := hq.far (of_drew hb)
            clear hb
            go_wp2_with fail
            refine (bminus_any _ _ _ _ _ _ (M * D) (N * E) _ hc ha (by omega) (by omega)).mono ?_
            rintro e U4 ⟨g4, l4, p4, rfl, hr, hb⟩
            replace A2 := A2.far hb
            replace B := B.trans (hb.mono B.size)
            replace ha := ha.far hb
            replace hc := hc.far hb
            replace hq := hq.far hb
            replace hG := gr_step hG hb
            clear hb
            go_wp2
            try refine ⟨hG, ?_⟩
            clear hG
            intro V2 hG hb
            replace A2 := A2.far hb
            replace B := B.trans (hb.mono B.size)
            replace hq := hq.far hb
            replace hr := hr.far hb
            clear hb
            go_wp2
            try refine ⟨hG, ?_⟩
            clear hG
            intro V3 hG hb
            replace A2 := A2.far hb
            replace B := B.trans (hb.mono B.size)
            replace hq := hq.far hb
            replace hr := hr.far hb
            clear hb
            obtain ⟨⟨k0, k1, k2, k3, k4, k5⟩, f0, f1', f2', f3, f4, f5⟩ := A2.six
            have HV : Wd V3 (.agg #[.bool s2, .slice (some ⟨g4, 0, none⟩) l4 p4, .slice (some ⟨g3, 0, none⟩) l3 p3, .bool false, .int .i64 0, .int .i64 0]) (P * S + R * Q) (Q * S) (e1 + e2 + 1) := ⟨s2, g4, l4, p4, M * D - N * E, g3, l3, p3, D * E, false, 0, 0, rfl, ⟨hr, hq, Nat.mul_pos hD0 hE0, (((hx2.2.2.2.1.mul hx1.2.2.2.2.1)).le (Nat.sub_le _ _)).up (by omega), (hx1.2.2.2.2.1.mul hx2.2.2.2.2.1).up (by omega), fun h => by cases h⟩, by
              have a1 := HE1.out
              have a2 := HE2.out
              clear ha hc hr hq hx1 hx2 k0 k1 k2 k3 k4 k5 f0 f1' f2' f3 f4 f5
              rw [show M * D - N * E = kk by omega, hsg]
              have hk2 : ((M : Int) * D) = N * E + kk := by exact_mod_cast hkk
              push_cast
              clear hkk hcm
              grind⟩
            have HP := A2.put6 (.bool s2) (.slice (some ⟨g4, 0, none⟩) l4 p4) (.slice (some ⟨g3, 0, none⟩) l3 p3) (.bool false) (.int .i64 0) (.int .i64 0)
            have HB9 := below_put6 B (show w.heap.size ≤ w.heap.size + 1 + 1 by omega) (.bool s2) (.slice (some ⟨g4, 0, none⟩) l4 p4) (.slice (some ⟨g3, 0, none⟩) l3 p3) (.bool false) (.int .i64 0) (.int .i64 0)
            have HG9 := gr_put6 hG (.inl rfl) (.bool s2) (.slice (some ⟨g4, 0, none⟩) l4 p4) (.slice (some ⟨g3, 0, none⟩) l3 p3) (.bool false) (.int .i64 0) (.int .i64 0)
            have HWD := HV.kept6 k0 (.bool s2) (.slice (some ⟨g4, 0, none⟩) l4 p4) (.slice (some ⟨g3, 0, none⟩) l3 p3) (.bool false) (.int .i64 0) (.int .i64 0)
            clear A2 HV B hG ha hc hr hq hx1 hx2
            go_wp2
            refine ⟨HG9, ?_⟩
            clear HG9 k0 k1 k2 k3 k4 k5 f0 f1' f2' f3 f4 f5
            unfold put6 at HP HB9 HWD
            generalize World.setCell _ ⟨w.heap.size + 1 + 1, 5, none⟩ _ = V at HP HB9 HWD ⊢
            intro V9 hG hb
            replace HP := HP.far hb
            replace HB9 := HB9.trans (hb.mono HB9.size)
            replace HWD := HWD.far hb
            clear hG hb
            obtain ⟨⟨k0, k1, k2, k3, k4, k5⟩, _⟩ := HP.six
            go_wp2
            refine bodyPost_ret (v := .agg #[.bool s2, .slice (some ⟨g4, 0, none⟩) l4 p4, .slice (some ⟨g3, 0, none⟩) l3 p3, .bool false, .int .i64 0, .int .i64 0]) (by simp [results, Try.results132, go_sem, k0, k1, k2, k3, k4, k5]) rfl ⟨_, rfl, HWD, HB9⟩
          · have hc0 : ¬ c3 (N * E) (M * D) < 0 := by unfold c3; rw [if_neg hcm]; split <;> omega
            obtain ⟨kk, hkk⟩ : ∃ kk, N * E = M * D + kk := ⟨N * E - M * D, by omega⟩
            obtain ⟨tt, htt⟩ : ∃ tt, c3 (N * E) (M * D) = tt := ⟨_, rfl⟩
            rw [htt] at hc0 ⊢
            clear htt
            obtain ⟨⟨x0, x1, x2, x3, x4, x5⟩, _⟩ := A0.six
            obtain ⟨⟨y0, y1, y2, y3, y4, y5⟩, _⟩ := A1.six
            go_upto_region 12 with fail
            clear x0 x1 x2 x3 x4 x5 y0 y1 y2 y3 y4 y5
            have qa0 := (A0.drew).gr (rw := some (w.heap.size + 1 + 1)) (fun e => by have := Option.some.inj e; omega) 0 rfl
            clear A0 A1
            refine wp_region_mix (some (w.heap.size + 1 + 1)) [0, 1, 2, 3, 5] [4, 6, 7] (by kernel_rfl) (by kernel_rfl) ?_
            simp only [pickOps, List.filterMap_cons, List.filterMap_nil, List.getElem?_toArray, List.getElem?_cons_succ, List.getElem?_cons_zero]
            repeat (refine wpQuietG_step (fun K hK => ?_); go_simp; first | (refine hK _ ?_; clear hK K) | (apply Exists.intro; refine ⟨fun _ => ?_, hK _ ?_⟩; (fail); clear hK K))
            refine wpQuietG_nil ?_
            clear qa0
            intro V1 hG hb
            replace A2 := A2.far (of_drew hb)
            replace B := B.trans ((of_drew hb).mono B.size)
            replace ha := ha.far (of_drew hb)
            replace hc := hc.far (of_drew hb)
            replace hq := hq.far (of_drew hb)
            clear hb
            go_wp2_with fail
            refine (bminus_any _ _ _ _ _ _ (N * E) (M * D) _ ha hc (by omega) (by omega)).mono ?_
            rintro e U4 ⟨g4, l4, p4, rfl, hr, hb⟩
            replace A2 := A2.far hb
            replace B := B.trans (hb.mono B.size)
            replace ha := ha.far hb
            replace hc := hc.far hb
            replace hq := hq.far hb
            replace hG := gr_step hG hb
            clear hb
            go_wp2
            try refine ⟨hG, ?_⟩
            clear hG
            intro V2 hG hb
            replace A2 := A2.far hb
            replace B := B.trans (hb.mono B.size)
            replace hq := hq.far hb
            replace hr := hr.far hb
            clear hb
            go_wp2
            try refine ⟨hG, ?_⟩
            clear hG
            intro V3 hG hb
            replace A2 := A2.far hb
            replace B := B.trans (hb.mono B.size)
            replace hq := hq.far hb
            replace hr := hr.far hb
            clear hb
            obtain ⟨⟨k0, k1, k2, k3, k4, k5⟩, f0, f1', f2', f3, f4, f5⟩ := A2.six
            have HV : Wd V3 (.agg #[.bool s1, .slice (some ⟨g4, 0, none⟩) l4 p4, .slice (some ⟨g3, 0, none⟩) l3 p3, .bool false, .int .i64 0, .int .i64 0]) (P * S + R * Q) (Q * S) (e1 + e2 + 1) := ⟨s1, g4, l4, p4, N * E - M * D, g3, l3, p3, D * E, false, 0, 0, rfl, ⟨hr, hq, Nat.mul_pos hD0 hE0, (((hx1.2.2.2.1.mul hx2.2.2.2.2.1)).le (Nat.sub_le _ _)).up (by omega), (hx1.2.2.2.2.1.mul hx2.2.2.2.2.1).up (by omega), fun h => by cases h⟩, by
              have a1 := HE1.out
              have a2 := HE2.out
              clear ha hc hr hq hx1 hx2 k0 k1 k2 k3 k4 k5 f0 f1' f2' f3 f4 f5
              rw [show N * E - M * D = kk by omega]
              rw [hsg] at a2
              have hk2 : ((N : Int) * E) = M * D + kk := by exact_mod_cast hkk
              push_cast
              clear hkk hcm
              grind⟩
            have HP := A2.put6 (.bool s1) (.slice (some ⟨g4, 0, none⟩) l4 p4) (.slice (some ⟨g3, 0, none⟩) l3 p3) (.bool false) (.int .i64 0) (.int .i64 0)
            have HB9 := below_put6 B (show w.heap.size ≤ w.heap.size + 1 + 1 by omega) (.bool s1) (.slice (some ⟨g4, 0, none⟩) l4 p4) (.slice (some ⟨g3, 0, none⟩) l3 p3) (.bool false) (.int .i64 0) (.int .i64 0)
            have HG9 := gr_put6 hG (.inl rfl) (.bool s1) (.slice (some ⟨g4, 0, none⟩) l4 p4) (.slice (some ⟨g3, 0, none⟩) l3 p3) (.bool false) (.int .i64 0) (.int .i64 0)
            have HWD := HV.kept6 k0 (.bool s1) (.slice (some ⟨g4, 0, none⟩) l4 p4) (.slice (some ⟨g3, 0, none⟩) l3 p3) (.bool false) (.int .i64 0) (.int .i64 0)
            clear A2 HV B hG ha hc hr hq hx1 hx2
            go_wp2
            refine ⟨HG9, ?_⟩
            clear HG9 k0 k1 k2 k3 k4 k5 f0 f1' f2' f3 f4 f5
            unfold put6 at HP HB9 HWD
            generalize World.setCell _ ⟨w.heap.size + 1 + 1, 5, none⟩ _ = V at HP HB9 HWD ⊢
            intro V9 hG hb
            replace HP := HP.far hb
            replace HB9 := HB9.trans (hb.mono HB9.size)
            replace HWD := HWD.far hb
            clear hG hb
            obtain ⟨⟨k0, k1, k2, k3, k4, k5⟩, _⟩ := HP.six
            go_wp2
            refine bodyPost_ret (v := .agg #[.bool s1, .slice (some ⟨g4, 0, none⟩) l4 p4, .slice (some ⟨g3, 0, none⟩) l3 p3, .bool false, .int .i64 0, .int .i64 0]) (by simp [results, Try.results132, go_sem, k0, k1, k2, k3, k4, k5]) rfl ⟨_, rfl, HWD, HB9⟩
      · go_upto_region 4 with fail
        generalize w2.alloc (.cells #[.int .i64 n, .int .i64 d] 27) = w4 at A0 A1 A2 B D5 ⊢
        generalize w2.heap.size = g5 at D5 ⊢
        obtain ⟨⟨z0, z1⟩, _⟩ := id D5
        obtain ⟨hVF, hval⟩ := addV_val hv1 hv2 hv.out
        have hdp := hVF.1
        have hf1 := hv1.1
        have hf2 := hv2.1
        go_wp2_with fail
        refine (wideOf_any n d hVF _).mono ?_
        rintro e w3 ⟨v, rfl, hWd, hb⟩
        replace A2 := A2.far hb
        replace B := B.trans (hb.mono B.size)
        clear hb A0 A1 D5
        have HV : Wd w3 v (P * S + R * Q) (Q * S) (e1 + e2 + 1) := (hWd.eqv (by omega) (by
          have hne : fd * hd ≠ 0 := Int.mul_ne_zero (by omega) (by omega)
          refine Int.eq_of_mul_eq_mul_right hne ?_
          clear hWd
          grind)).up (by omega)
        clear hWd hval hVF hv hq1 hq2
        obtain ⟨s, g1, l1, c1', N', g2, l2, c2', D', fine, fn', fd', rfl, _⟩ := id HV
        obtain ⟨⟨k0, k1, k2, k3, k4, k5⟩, f0, f1, f2, f3, f4, f5⟩ := A2.six
        have HP := A2.put6 (.bool s) (.slice (some ⟨g1, 0, none⟩) l1 c1') (.slice (some ⟨g2, 0, none⟩) l2 c2') (.bool fine) (.int .i64 fn') (.int .i64 fd')
        have HB9 := below_put6 B (show w.heap.size ≤ w.heap.size + 1 + 1 by omega) (.bool s) (.slice (some ⟨g1, 0, none⟩) l1 c1') (.slice (some ⟨g2, 0, none⟩) l2 c2') (.bool fine) (.int .i64 fn') (.int .i64 fd')
        have HWD := HV.kept6 k0 (.bool s) (.slice (some ⟨g1, 0, none⟩) l1 c1') (.slice (some ⟨g2, 0, none⟩) l2 c2') (.bool fine) (.int .i64 fn') (.int .i64 fd')
        clear A2 HV B
        unfold put6 at HP HB9 HWD
        go_wp2
        clear k0 k1 k2 k3 k4 k5 f0 f1 f2 f3 f4 f5
        generalize World.setCell _ ⟨w.heap.size + 1 + 1, 5, none⟩ _ = V at HP HB9 HWD ⊢
        obtain ⟨⟨k0, k1, k2, k3, k4, k5⟩, _⟩ := HP.six
        refine bodyPost_ret (v := .agg #[.bool s, .slice (some ⟨g1, 0, none⟩) l1 c1', .slice (some ⟨g2, 0, none⟩) l2 c2', .bool fine, .int .i64 fn', .int .i64 fd']) (by simp [results, Try.results132, go_sem, k0, k1, k2, k3, k4, k5]) rfl ⟨_, rfl, HWD, HB9⟩
    · have q3 : f2 = false := by simpa using q2
      subst q3
      obtain ⟨⟨x0, x1, x2, x3, x4, x5⟩, _⟩ := A0.six
      obtain ⟨⟨y0, y1, y2, y3, y4, y5⟩, _⟩ := A1.six
      go_upto_region 5 with fail
      clear x0 x1 x2 x3 x4 x5 y0 y1 y2 y3 y4 y5
      have hx1 := HW1.out.far B
      have hx2 := HW2.out.far B
      obtain ⟨⟨x0, x1, x2, x3, x4, x5⟩, _⟩ := A0.six
      obtain ⟨⟨y0, y1, y2, y3, y4, y5⟩, _⟩ := A1.six
      go_wp2_with fail
      refine (btimes_any _ _ _ _ _ _ N E _ hx1.1 hx2.2.1 (by omega) (by omega)).mono ?_
      rintro e U1 ⟨g1, l1, p1, rfl, ha, hb⟩
      clear x0 x1 x2 x3 x4 x5 y0 y1 y2 y3 y4 y5
      replace A0 := A0.far hb
      replace A1 := A1.far hb
      replace A2 := A2.far hb
      replace hx1 := hx1.far hb
      replace hx2 := hx2.far hb
      replace B := B.trans (hb.mono B.size)
      clear hb
      obtain ⟨⟨x0, x1, x2, x3, x4, x5⟩, _⟩ := A0.six
      obtain ⟨⟨y0, y1, y2, y3, y4, y5⟩, _⟩ := A1.six
      go_wp2_with fail
      refine (btimes_any _ _ _ _ _ _ M D _ hx2.1 hx1.2.1 (by omega) (by omega)).mono ?_
      rintro e U2 ⟨g2, l2, p2, rfl, hc, hb⟩
      clear x0 x1 x2 x3 x4 x5 y0 y1 y2 y3 y4 y5
      replace A0 := A0.far hb
      replace A1 := A1.far hb
      replace A2 := A2.far hb
      replace hx1 := hx1.far hb
      replace hx2 := hx2.far hb
      replace ha := ha.far hb
      replace B := B.trans (hb.mono B.size)
      clear hb
      obtain ⟨⟨x0, x1, x2, x3, x4, x5⟩, _⟩ := A0.six
      obtain ⟨⟨y0, y1, y2, y3, y4, y5⟩, _⟩ := A1.six
      go_wp2_with fail
      refine (btimes_any _ _ _ _ _ _ D E _ hx1.2.1 hx2.2.1 (by omega) (by omega)).mono ?_
      rintro e U3 ⟨g3, l3, p3, rfl, hq, hb⟩
      clear x0 x1 x2 x3 x4 x5 y0 y1 y2 y3 y4 y5
      replace A0 := A0.far hb
      replace A1 := A1.far hb
      replace A2 := A2.far hb
      replace hx1 := hx1.far hb
      replace hx2 := hx2.far hb
      replace ha := ha.far hb
      replace hc := hc.far hb
      replace B := B.trans (hb.mono B.size)
      clear hb
      have hl1 := (hx1.2.2.2.1.mul hx2.2.2.2.2.1).len30 (K := 400000) (by omega) ha.2.1
      have hl2 := (hx2.2.2.2.1.mul hx1.2.2.2.2.1).len30 (K := 400000) (by omega) hc.2.1
      by_cases hss : s1 = s2
      · subst hss
        have hbe : (s1 == s1) = true := by simp
        obtain ⟨⟨x0, x1, x2, x3, x4, x5⟩, _⟩ := A0.six
        obtain ⟨⟨y0, y1, y2, y3, y4, y5⟩, _⟩ := A1.six
        go_upto_region 9 with fail
        clear x0 x1 x2 x3 x4 x5 y0 y1 y2 y3 y4 y5
        have qa0 := (A0.drew).gr (rw := some (w.heap.size + 1 + 1)) (fun e => by have := Option.some.inj e; omega) 0 rfl
        clear A0 A1
        refine wp_region_mix (some (w.heap.size + 1 + 1)) [0, 1, 2, 3, 5] [4, 6, 7] (by kernel_rfl) (by kernel_rfl) ?_
        simp only [pickOps, List.filterMap_cons, List.filterMap_nil, List.getElem?_toArray, List.getElem?_cons_succ, List.getElem?_cons_zero]
        repeat (refine wpQuietG_step (fun K hK => ?_); go_simp; first | (refine hK _ ?_; clear hK K) | (apply Exists.intro; refine ⟨fun _ => ?_, hK _ ?_⟩; (fail); clear hK K))
        refine wpQuietG_nil ?_
        clear qa0
        intro V1 hG hb
        replace A2 := A2.far (of_drew hb)
        replace B := B.trans ((of_drew hb).mono B.size)
        replace ha := ha.far (of_drew hb)
        replace hc := hc.far (of_drew hb)
        replace hq := hq.far (of_drew hb)
        clear hb
        go_wp2_with fail
        refine (bplus_any _ _ _ _ _ _ (N * E) (M * D) _ ha hc (by omega) (by omega)).mono ?_
        rintro e U4 ⟨g4, l4, p4, rfl, hr, hb⟩
        replace A2 := A2.far hb
        replace B := B.trans (hb.mono B.size)
        replace ha := ha.far hb
        replace hc := hc.far hb
        replace hq := hq.far hb
        replace hG := gr_step hG hb
        clear hb
        go_wp2
        try refine ⟨hG, ?_⟩
        clear hG
        intro V2 hG hb
        replace A2 := A2.far hb
        replace B := B.trans (hb.mono B.size)
        replace hq := hq.far hb
        replace hr := hr.far hb
        clear hb
        go_wp2
        try refine ⟨hG, ?_⟩
        clear hG
        intro V3 hG hb
        replace A2 := A2.far hb
        replace B := B.trans (hb.mono B.size)
        replace hq := hq.far hb
        replace hr := hr.far hb
        clear hb
        obtain ⟨⟨k0, k1, k2, k3, k4, k5⟩, f0, f1', f2', f3, f4, f5⟩ := A2.six
        have HV : Wd V3 (.agg #[.bool s1, .slice (some ⟨g4, 0, none⟩) l4 p4, .slice (some ⟨g3, 0, none⟩) l3 p3, .bool false, .int .i64 0, .int .i64 0]) (P * S + R * Q) (Q * S) (e1 + e2 + 1) := ⟨s1, g4, l4, p4, N * E + M * D, g3, l3, p3, D * E, false, 0, 0, rfl, ⟨hr, hq, Nat.mul_pos hD0 hE0, ((hx1.2.2.2.1.mul hx2.2.2.2.2.1)).add ((hx2.2.2.2.1.mul hx1.2.2.2.2.1).up (by omega)), (hx1.2.2.2.2.1.mul hx2.2.2.2.2.1).up (by omega), fun h => by cases h⟩, by
          have a1 := HE1.out
          have a2 := HE2.out
          clear ha hc hr hq hx1 hx2 k0 k1 k2 k3 k4 k5 f0 f1' f2' f3 f4 f5
          push_cast
          grind⟩
        have HP := A2.put6 (.bool s1) (.slice (some ⟨g4, 0, none⟩) l4 p4) (.slice (some ⟨g3, 0, none⟩) l3 p3) (.bool false) (.int .i64 0) (.int .i64 0)
        have HB9 := below_put6 B (show w.heap.size ≤ w.heap.size + 1 + 1 by omega) (.bool s1) (.slice (some ⟨g4, 0, none⟩) l4 p4) (.slice (some ⟨g3, 0, none⟩) l3 p3) (.bool false) (.int .i64 0) (.int .i64 0)
        have HG9 := gr_put6 hG (.inl rfl) (.bool s1) (.slice (some ⟨g4, 0, none⟩) l4 p4) (.slice (some ⟨g3, 0, none⟩) l3 p3) (.bool false) (.int .i64 0) (.int .i64 0)
        have HWD := HV.kept6 k0 (.bool s1) (.slice (some ⟨g4, 0, none⟩) l4 p4) (.slice (some ⟨g3, 0, none⟩) l3 p3) (.bool false) (.int .i64 0) (.int .i64 0)
        clear A2 HV B hG ha hc hr hq hx1 hx2
        go_wp2
        refine ⟨HG9, ?_⟩
        clear HG9 k0 k1 k2 k3 k4 k5 f0 f1' f2' f3 f4 f5
        unfold put6 at HP HB9 HWD
        generalize World.setCell _ ⟨w.heap.size + 1 + 1, 5, none⟩ _ = V at HP HB9 HWD ⊢
        intro V9 hG hb
        replace HP := HP.far hb
        replace HB9 := HB9.trans (hb.mono HB9.size)
        replace HWD := HWD.far hb
        clear hG hb
        obtain ⟨⟨k0, k1, k2, k3, k4, k5⟩, _⟩ := HP.six
        go_wp2
        refine bodyPost_ret (v := .agg #[.bool s1, .slice (some ⟨g4, 0, none⟩) l4 p4, .slice (some ⟨g3, 0, none⟩) l3 p3, .bool false, .int .i64 0, .int .i64 0]) (by simp [results, Try.results132, go_sem, k0, k1, k2, k3, k4, k5]) rfl ⟨_, rfl, HWD, HB9⟩
      · have hbe : (s1 == s2) = false := by simpa using hss
        have hsg : sg s2 = - sg s1 := by
          clear HW1 HW2 HE1 HE2 HF A0 A1 A2 hx1 hx2
          cases s1 <;> cases s2 <;> first | (exact absurd rfl hss) | rfl
        obtain ⟨⟨x0, x1, x2, x3, x4, x5⟩, _⟩ := A0.six
        obtain ⟨⟨y0, y1, y2, y3, y4, y5⟩, _⟩ := A1.six
        go_wp2_with fail
        refine (bcmp_any _ _ _ _ _ _ (N * E) (M * D) _ ha hc (by omega)).mono ?_
        rintro e U5 ⟨rfl, hb⟩
        clear x0 x1 x2 x3 x4 x5 y0 y1 y2 y3 y4 y5
        replace A0 := A0.far hb
        replace A1 := A1.far hb
        replace A2 := A2.far hb
        replace hx1 := hx1.far hb
        replace hx2 := hx2.far hb
        replace ha := ha.far hb
        replace hc := hc.far hb
        replace hq := hq.far hb
        replace B := B.trans (hb.mono B.size)
        clear hb
        by_cases hcm : N * E < M * D
        · rw [c3_lt hcm]
          obtain ⟨kk, hkk⟩ : ∃ kk, M * D = N * E + kk := ⟨M * D - N * E, by omega⟩
          obtain ⟨⟨x0, x1, x2, x3, x4, x5⟩, _⟩ := A0.six
          obtain ⟨⟨y0, y1, y2, y3, y4, y5⟩, _⟩ := A1.six
          go_upto_region 11 with fail
          clear x0 x1 x2 x3 x4 x5 y0 y1 y2 y3 y4 y5
          have qb0 := (A1.drew).gr (rw := some (w.heap.size + 1 + 1)) (fun e => by have := Option.some.inj e; omega) 0 rfl
          clear A0 A1
          refine wp_region_mix (some (w.heap.size + 1 + 1)) [0, 1, 2, 3, 5] [4, 6, 7] (by kernel_rfl) (by kernel_rfl) ?_
          simp only [pickOps, List.filterMap_cons, List.filterMap_nil, List.getElem?_toArray, List.getElem?_cons_succ, List.getElem?_cons_zero]
          repeat (refine wpQuietG_step (fun K hK => ?_); go_simp; first | (refine hK _ ?_; clear hK K) | (apply Exists.intro; refine ⟨fun _ => ?_, hK _ ?_⟩; (fail); clear hK K))
          refine wpQuietG_nil ?_
          clear qb0
          intro V1 hG hb
          replace A2 := A2.far (of_drew hb)
          replace B := B.trans ((of_drew hb).mono B.size)
          replace ha := ha.far (of_drew hb)
          replace hc := hc.far (of_drew hb)
          replace hq := hq.far (of_drew hb)
          clear hb
          go_wp2_with fail
          refine (bminus_any _ _ _ _ _ _ (M * D) (N * E) _ hc ha (by omega) (by omega)).mono ?_
          rintro e U4 ⟨g4, l4, p4, rfl, hr, hb⟩
          replace A2 := A2.far hb
          replace B := B.trans (hb.mono B.size)
          replace ha := ha.far hb
          replace hc := hc.far hb
          replace hq := hq.far hb
          replace hG := gr_step hG hb
          clear hb
          go_wp2
          try refine ⟨hG, ?_⟩
          clear hG
          intro V2 hG hb
          replace A2 := A2.far hb
          replace B := B.trans (hb.mono B.size)
          replace hq := hq.far hb
          replace hr := hr.far hb
          clear hb
          go_wp2
          try refine ⟨hG, ?_⟩
          clear hG
          intro V3 hG hb
          replace A2 := A2.far hb
          replace B := B.trans (hb.mono B.size)
          replace hq := hq.far hb
          replace hr := hr.far hb
          clear hb
          obtain ⟨⟨k0, k1, k2, k3, k4, k5⟩, f0, f1', f2', f3, f4, f5⟩ := A2.six
          have HV : Wd V3 (.agg #[.bool s2, .slice (some ⟨g4, 0, none⟩) l4 p4, .slice (some ⟨g3, 0, none⟩) l3 p3, .bool false, .int .i64 0, .int .i64 0]) (P * S + R * Q) (Q * S) (e1 + e2 + 1) := ⟨s2, g4, l4, p4, M * D - N * E, g3, l3, p3, D * E, false, 0, 0, rfl, ⟨hr, hq, Nat.mul_pos hD0 hE0, (((hx2.2.2.2.1.mul hx1.2.2.2.2.1)).le (Nat.sub_le _ _)).up (by omega), (hx1.2.2.2.2.1.mul hx2.2.2.2.2.1).up (by omega), fun h => by cases h⟩, by
            have a1 := HE1.out
            have a2 := HE2.out
            clear ha hc hr hq hx1 hx2 k0 k1 k2 k3 k4 k5 f0 f1' f2' f3 f4 f5
            rw [show M * D - N * E = kk by omega, hsg]
            have hk2 : ((M : Int) * D) = N * E + kk := by exact_mod_cast hkk
            push_cast
            clear hkk hcm
            grind⟩
          have HP := A2.put6 (.bool s2) (.slice (some ⟨g4, 0, none⟩) l4 p4) (.slice (some ⟨g3, 0, none⟩) l3 p3) (.bool false) (.int .i64 0) (.int .i64 0)
          have HB9 := below_put6 B (show w.heap.size ≤ w.heap.size + 1 + 1 by omega) (.bool s2) (.slice (some ⟨g4, 0, none⟩) l4 p4) (.slice (some ⟨g3, 0, none⟩) l3 p3) (.bool false) (.int .i64 0) (.int .i64 0)
          have HG9 := gr_put6 hG (.inl rfl) (.bool s2) (.slice (some ⟨g4, 0, none⟩) l4 p4) (.slice (some ⟨g3, 0, none⟩) l3 p3) (.bool false) (.int .i64 0) (.int .i64 0)
          have HWD := HV.kept6 k0 (.bool s2) (.slice (some ⟨g4, 0, none⟩) l4 p4) (.slice (some ⟨g3, 0, none⟩) l3 p3) (.bool false) (.int .i64 0) (.int .i64 0)
          clear A2 HV B hG ha hc hr hq hx1 hx2
          go_wp2
          refine ⟨HG9, ?_⟩
          clear HG9 k0 k1 k2 k3 k4 k5 f0 f1' f2' f3 f4 f5
          unfold put6 at HP HB9 HWD
          generalize World.setCell _ ⟨w.heap.size + 1 + 1, 5, none⟩ _ = V at HP HB9 HWD ⊢
          intro V9 hG hb
          replace HP := HP.far hb
          replace HB9 := HB9.trans (hb.mono HB9.size)
          replace HWD := HWD.far hb
          clear hG hb
          obtain ⟨⟨k0, k1, k2, k3, k4, k5⟩, _⟩ := HP.six
          go_wp2
          refine bodyPost_ret (v := .agg #[.bool s2, .slice (some ⟨g4, 0, none⟩) l4 p4, .slice (some ⟨g3, 0, none⟩) l3 p3, .bool false, .int .i64 0, .int .i64 0]) (by simp [results, Try.results132, go_sem, k0, k1, k2, k3, k4, k5]) rfl ⟨_, rfl, HWD, HB9⟩
        · have hc0 : ¬ c3 (N * E) (M * D) < 0 := by unfold c3; rw [if_neg hcm]; split <;> omega
          obtain ⟨kk, hkk⟩ : ∃ kk, N * E = M * D + kk := ⟨N * E - M * D, by omega⟩
          obtain ⟨tt, htt⟩ : ∃ tt, c3 (N * E) (M * D) = tt := ⟨_, rfl⟩
          rw [htt] at hc0 ⊢
          clear htt
          obtain ⟨⟨x0, x1, x2, x3, x4, x5⟩, _⟩ := A0.six
          obtain ⟨⟨y0, y1, y2, y3, y4, y5⟩, _⟩ := A1.six
          go_upto_region 12 with fail
          clear x0 x1 x2 x3 x4 x5 y0 y1 y2 y3 y4 y5
          have qa0 := (A0.drew).gr (rw := some (w.heap.size + 1 + 1)) (fun e => by have := Option.some.inj e; omega) 0 rfl
          clear A0 A1
          refine wp_region_mix (some (w.heap.size + 1 + 1)) [0, 1, 2, 3, 5] [4, 6, 7] (by kernel_rfl) (by kernel_rfl) ?_
          simp only [pickOps, List.filterMap_cons, List.filterMap_nil, List.getElem?_toArray, List.getElem?_cons_succ, List.getElem?_cons_zero]
          repeat (refine wpQuietG_step (fun K hK => ?_); go_simp; first | (refine hK _ ?_; clear hK K) | (apply Exists.intro; refine ⟨fun _ => ?_, hK _ ?_⟩; (fail); clear hK K))
          refine wpQuietG_nil ?_
          clear qa0
          intro V1 hG hb
          replace A2 := A2.far (of_drew hb)
          replace B := B.trans ((of_drew hb).mono B.size)
          replace ha := ha.far (of_drew hb)
          replace hc := hc.far (of_drew hb)
          replace hq := hq.far (of_drew hb)
          clear hb
          go_wp2_with fail
          refine (bminus_any _ _ _ _ _ _ (N * E) (M * D) _ ha hc (by omega) (by omega)).mono ?_
          rintro e U4 ⟨g4, l4, p4, rfl, hr, hb⟩
          replace A2 := A2.far hb
          replace B := B.trans (hb.mono B.size)
          replace ha := ha.far hb
          replace hc := hc.far hb
          replace hq := hq.far hb
          replace hG := gr_step hG hb
          clear hb
          go_wp2
          try refine ⟨hG, ?_⟩
          clear hG
          intro V2 hG hb
          replace A2 := A2.far hb
          replace B := B.trans (hb.mono B.size)
          replace hq := hq.far hb
          replace hr := hr.far hb
          clear hb
          go_wp2
          try refine ⟨hG, ?_⟩
          clear hG
          intro V3 hG hb
          replace A2 := A2.far hb
          replace B := B.trans (hb.mono B.size)
          replace hq := hq.far hb
          replace hr := hr.far hb
          clear hb
          obtain ⟨⟨k0, k1, k2, k3, k4, k5⟩, f0, f1', f2', f3, f4, f5⟩ := A2.six
          have HV : Wd V3 (.agg #[.bool s1, .slice (some ⟨g4, 0, none⟩) l4 p4, .slice (some ⟨g3, 0, none⟩) l3 p3, .bool false, .int .i64 0, .int .i64 0]) (P * S + R * Q) (Q * S) (e1 + e2 + 1) := ⟨s1, g4, l4, p4, N * E - M * D, g3, l3, p3, D * E, false, 0, 0, rfl, ⟨hr, hq, Nat.mul_pos hD0 hE0, (((hx1.2.2.2.1.mul hx2.2.2.2.2.1)).le (Nat.sub_le _ _)).up (by omega), (hx1.2.2.2.2.1.mul hx2.2.2.2.2.1).up (by omega), fun h => by cases h⟩, by
            have a1 := HE1.out
            have a2 := HE2.out
            clear ha hc hr hq hx1 hx2 k0 k1 k2 k3 k4 k5 f0 f1' f2' f3 f4 f5
            rw [show N * E - M * D = kk by omega]
            rw [hsg] at a2
            have hk2 : ((N : Int) * E) = M * D + kk := by exact_mod_cast hkk
            push_cast
            clear hkk hcm
            grind⟩
          have HP := A2.put6 (.bool s1) (.slice (some ⟨g4, 0, none⟩) l4 p4) (.slice (some ⟨g3, 0, none⟩) l3 p3) (.bool false) (.int .i64 0) (.int .i64 0)
          have HB9 := below_put6 B (show w.heap.size ≤ w.heap.size + 1 + 1 by omega) (.bool s1) (.slice (some ⟨g4, 0, none⟩) l4 p4) (.slice (some ⟨g3, 0, none⟩) l3 p3) (.bool false) (.int .i64 0) (.int .i64 0)
          have HG9 := gr_put6 hG (.inl rfl) (.bool s1) (.slice (some ⟨g4, 0, none⟩) l4 p4) (.slice (some ⟨g3, 0, none⟩) l3 p3) (.bool false) (.int .i64 0) (.int .i64 0)
          have HWD := HV.kept6 k0 (.bool s1) (.slice (some ⟨g4, 0, none⟩) l4 p4) (.slice (some ⟨g3, 0, none⟩) l3 p3) (.bool false) (.int .i64 0) (.int .i64 0)
          clear A2 HV B hG ha hc hr hq hx1 hx2
          go_wp2
          refine ⟨HG9, ?_⟩
          clear HG9 k0 k1 k2 k3 k4 k5 f0 f1' f2' f3 f4 f5
          unfold put6 at HP HB9 HWD
          generalize World.setCell _ ⟨w.heap.size + 1 + 1, 5, none⟩ _ = V at HP HB9 HWD ⊢
          intro V9 hG hb
          replace HP := HP.far hb
          replace HB9 := HB9.trans (hb.mono HB9.size)
          replace HWD := HWD.far hb
          clear hG hb
          obtain ⟨⟨k0, k1, k2, k3, k4, k5⟩, _⟩ := HP.six
          go_wp2
          refine bodyPost_ret (v := .agg #[.bool s1, .slice (some ⟨g4, 0, none⟩) l4 p4, .slice (some ⟨g3, 0, none⟩) l3 p3, .bool false, .int .i64 0, .int .i64 0]) (by simp [results, Try.results132, go_sem, k0, k1, k2, k3, k4, k5]) rfl ⟨_, rfl, HWD, HB9⟩
  · have q3 : f1 = false := by simpa using q1
    subst q3
    obtain ⟨⟨x0, x1, x2, x3, x4, x5⟩, _⟩ := A0.six
    obtain ⟨⟨y0, y1, y2, y3, y4, y5⟩, _⟩ := A1.six
    go_upto_region 5 with fail
    clear x0 x1 x2 x3 x4 x5 y0 y1 y2 y3 y4 y5
    have hx1 := HW1.out.far B
    have hx2 := HW2.out.far B
    obtain ⟨⟨x0, x1, x2, x3, x4, x5⟩, _⟩ := A0.six
    obtain ⟨⟨y0, y1, y2, y3, y4, y5⟩, _⟩ := A1.six
    go_wp2_with fail
    refine (btimes_any _ _ _ _ _ _ N E _ hx1.1 hx2.2.1 (by omega) (by omega)).mono ?_
    rintro e U1 ⟨g1, l1, p1, rfl, ha, hb⟩
    clear x0 x1 x2 x3 x4 x5 y0 y1 y2 y3 y4 y5
    replace A0 := A0.far hb
    replace A1 := A1.far hb
    replace A2 := A2.far hb
    replace hx1 := hx1.far hb
    replace hx2 := hx2.far hb
    replace B := B.trans (hb.mono B.size)
    clear hb
    obtain ⟨⟨x0, x1, x2, x3, x4, x5⟩, _⟩ := A0.six
    obtain ⟨⟨y0, y1, y2, y3, y4, y5⟩, _⟩ := A1.six
    go_wp2_with fail
    refine (btimes_any _ _ _ _ _ _ M D _ hx2.1 hx1.2.1 (by omega) (by omega)).mono ?_
    rintro e U2 ⟨g2, l2, p2, rfl, hc, hb⟩
    clear x0 x1 x2 x3 x4 x5 y0 y1 y2 y3 y4 y5
    replace A0 := A0.far hb
    replace A1 := A1.far hb
    replace A2 := A2.far hb
    replace hx1 := hx1.far hb
    replace hx2 := hx2.far hb
    replace ha := ha.far hb
    replace B := B.trans (hb.mono B.size)
    clear hb
    obtain ⟨⟨x0, x1, x2, x3, x4, x5⟩, _⟩ := A0.six
    obtain ⟨⟨y0, y1, y2, y3, y4, y5⟩, _⟩ := A1.six
    go_wp2_with fail
    refine (btimes_any _ _ _ _ _ _ D E _ hx1.2.1 hx2.2.1 (by omega) (by omega)).mono ?_
    rintro e U3 ⟨g3, l3, p3, rfl, hq, hb⟩
    clear x0 x1 x2 x3 x4 x5 y0 y1 y2 y3 y4 y5
    replace A0 := A0.far hb
    replace A1 := A1.far hb
    replace A2 := A2.far hb
    replace hx1 := hx1.far hb
    replace hx2 := hx2.far hb
    replace ha := ha.far hb
    replace hc := hc.far hb
    replace B := B.trans (hb.mono B.size)
    clear hb
    have hl1 := (hx1.2.2.2.1.mul hx2.2.2.2.2.1).len30 (K := 400000) (by omega) ha.2.1
    have hl2 := (hx2.2.2.2.1.mul hx1.2.2.2.2.1).len30 (K := 400000) (by omega) hc.2.1
    by_cases hss : s1 = s2
    · subst hss
      have hbe : (s1 == s1) = true := by simp
      obtain ⟨⟨x0, x1, x2, x3, x4, x5⟩, _⟩ := A0.six
      obtain ⟨⟨y0, y1, y2, y3, y4, y5⟩, _⟩ := A1.six
      go_upto_region 9 with fail
      clear x0 x1 x2 x3 x4 x5 y0 y1 y2 y3 y4 y5
      have qa0 := (A0.drew).gr (rw := some (w.heap.size + 1 + 1)) (fun e => by have := Option.some.inj e; omega) 0 rfl
      clear A0 A1
      refine wp_region_mix (some (w.heap.size + 1 + 1)) [0, 1, 2, 3, 5] [4, 6, 7] (by kernel_rfl) (by kernel_rfl) ?_
      simp only [pickOps, List.filterMap_cons, List.filterMap_nil, List.getElem?_toArray, List.getElem?_cons_succ, List.getElem?_cons_zero]
      repeat (refine wpQuietG_step (fun K hK => ?_); go_simp; first | (refine hK _ ?_; clear hK K) | (apply Exists.intro; refine ⟨fun _ => ?_, hK _ ?_⟩; (fail); clear hK K))
      refine wpQuietG_nil ?_
      clear qa0
      intro V1 hG hb
      replace A2 := A2.far (of_drew hb)
      replace B := B.trans ((of_drew hb).mono B.size)
      replace ha := ha.far (of_drew hb)
      replace hc := hc.far (of_drew hb)
      replace hq := hq.far (of_drew hb)
      clear hb
      go_wp2_with fail
      refine (bplus_any _ _ _ _ _ _ (N * E) (M * D) _ ha hc (by omega) (by omega)).mono ?_
      rintro e U4 ⟨g4, l4, p4, rfl, hr, hb⟩
      replace A2 := A2.far hb
      replace B := B.trans (hb.mono B.size)
      replace ha := ha.far hb
      replace hc := hc.far hb
      replace hq := hq.far hb
      replace hG := gr_step hG hb
      clear hb
      go_wp2
      try refine ⟨hG, ?_⟩
      clear hG
      intro V2 hG hb
      replace A2 := A2.far hb
      replace B := B.trans (hb.mono B.size)
      replace hq := hq.far hb
      replace hr := hr.far hb
      clear hb
      go_wp2
      try refine ⟨hG, ?_⟩
      clear hG
      intro V3 hG hb
      replace A2 := A2.far hb
      replace B := B.trans (hb.mono B.size)
      replace hq := hq.far hb
      replace hr := hr.far hb
      clear hb
      obtain ⟨⟨k0, k1, k2, k3, k4, k5⟩, f0, f1', f2', f3, f4, f5⟩ := A2.six
      have HV : Wd V3 (.agg #[.bool s1, .slice (some ⟨g4, 0, none⟩) l4 p4, .slice (some ⟨g3, 0, none⟩) l3 p3, .bool false, .int .i64 0, .int .i64 0]) (P * S + R * Q) (Q * S) (e1 + e2 + 1) := ⟨s1, g4, l4, p4, N * E + M * D, g3, l3, p3, D * E, false, 0, 0, rfl, ⟨hr, hq, Nat.mul_pos hD0 hE0, ((hx1.2.2.2.1.mul hx2.2.2.2.2.1)).add ((hx2.2.2.2.1.mul hx1.2.2.2.2.1).up (by omega)), (hx1.2.2.2.2.1.mul hx2.2.2.2.2.1).up (by omega), fun h => by cases h⟩, by
        have a1 := HE1.out
        have a2 := HE2.out
        clear ha hc hr hq hx1 hx2 k0 k1 k2 k3 k4 k5 f0 f1' f2' f3 f4 f5
        push_cast
        grind⟩
      have HP := A2.put6 (.bool s1) (.slice (some ⟨g4, 0, none⟩) l4 p4) (.slice (some ⟨g3, 0, none⟩) l3 p3) (.bool false) (.int .i64 0) (.int .i64 0)
      have HB9 := below_put6 B (show w.heap.size ≤ w.heap.size + 1 + 1 by omega) (.bool s1) (.slice (some ⟨g4, 0, none⟩) l4 p4) (.slice (some ⟨g3, 0, none⟩) l3 p3) (.bool false) (.int .i64 0) (.int .i64 0)
      have HG9 := gr_put6 hG (.inl rfl) (.bool s1) (.slice (some ⟨g4, 0, none⟩) l4 p4) (.slice (some ⟨g3, 0, none⟩) l3 p3) (.bool false) (.int .i64 0) (.int .i64 0)
      have HWD := HV.kept6 k0 (.bool s1) (.slice (some ⟨g4, 0, none⟩) l4 p4) (.slice (some ⟨g3, 0, none⟩) l3 p3) (.bool false) (.int .i64 0) (.int .i64 0)
      clear A2 HV B hG ha hc hr hq hx1 hx2
      go_wp2
      refine ⟨HG9, ?_⟩
      clear HG9 k0 k1 k2 k3 k4 k5 f0 f1' f2' f3 f4 f5
      unfold put6 at HP HB9 HWD
      generalize World.setCell _ ⟨w.heap.size + 1 + 1, 5, none⟩ _ = V at HP HB9 HWD ⊢
      intro V9 hG hb
      replace HP := HP.far hb
      replace HB9 := HB9.trans (hb.mono HB9.size)
      replace HWD := HWD.far hb
      clear hG hb
      obtain ⟨⟨k0, k1, k2, k3, k4, k5⟩, _⟩ := HP.six
      go_wp2
      refine bodyPost_ret (v := .agg #[.bool s1, .slice (some ⟨g4, 0, none⟩) l4 p4, .slice (some ⟨g3, 0, none⟩) l3 p3, .bool false, .int .i64 0, .int .i64 0]) (by simp [results, Try.results132, go_sem, k0, k1, k2, k3, k4, k5]) rfl ⟨_, rfl, HWD, HB9⟩
    · have hbe : (s1 == s2) = false := by simpa using hss
      have hsg : sg s2 = - sg s1 := by
        clear HW1 HW2 HE1 HE2 HF A0 A1 A2 hx1 hx2
        cases s1 <;> cases s2 <;> first | (exact absurd rfl hss) | rfl
      obtain ⟨⟨x0, x1, x2, x3, x4, x5⟩, _⟩ := A0.six
      obtain ⟨⟨y0, y1, y2, y3, y4, y5⟩, _⟩ := A1.six
      go_wp2_with fail
      refine (bcmp_any _ _ _ _ _ _ (N * E) (M * D) _ ha hc (by omega)).mono ?_
      rintro e U5 ⟨rfl, hb⟩
      clear x0 x1 x2 x3 x4 x5 y0 y1 y2 y3 y4 y5
      replace A0 := A0.far hb
      replace A1 := A1.far hb
      replace A2 := A2.far hb
      replace hx1 := hx1.far hb
      replace hx2 := hx2.far hb
      replace ha := ha.far hb
      replace hc := hc.far hb
      replace hq := hq.far hb
      replace B := B.trans (hb.mono B.size)
      clear hb
      by_cases hcm : N * E < M * D
      · rw [c3_lt hcm]
        obtain ⟨kk, hkk⟩ : ∃ kk, M * D = N * E + kk := ⟨M * D - N * E, by omega⟩
        obtain ⟨⟨x0, x1, x2, x3, x4, x5⟩, _⟩ := A0.six
        obtain ⟨⟨y0, y1, y2, y3, y4, y5⟩, _⟩ := A1.six
        go_upto_region 11 with fail
        clear x0 x1 x2 x3 x4 x5 y0 y1 y2 y3 y4 y5
        have qb0 := (A1.drew).gr (rw := some (w.heap.size + 1 + 1)) (fun e => by have := Option.some.inj e; omega) 0 rfl
        clear A0 A1
        refine wp_region_mix (some (w.heap.size + 1 + 1)) [0, 1, 2, 3, 5] [4, 6, 7] (by kernel_rfl) (by kernel_rfl) ?_
        simp only [pickOps, List.filterMap_cons, List.filterMap_nil, List.getElem?_toArray, List.getElem?_cons_succ, List.getElem?_cons_zero]
        repeat (refine wpQuietG_step (fun K hK => ?_); go_simp; first | (refine hK _ ?_; clear hK K) | (apply Exists.intro; refine ⟨fun _ => ?_, hK _ ?_⟩; (fail); clear hK K))
        refine wpQuietG_nil ?_
        clear qb0
        intro V1 hG hb
        replace A2 := A2.far (of_drew hb)
        replace B := B.trans ((of_drew hb).mono B.size)
        replace ha := ha.far (of_drew hb)
        replace hc := hc.far (of_drew hb)
        replace hq := hq.far (of_drew hb)
        clear hb
        go_wp2_with fail
        refine (bminus_any _ _ _ _ _ _ (M * D) (N * E) _ hc ha (by omega) (by omega)).mono ?_
        rintro e U4 ⟨g4, l4, p4, rfl, hr, hb⟩
        replace A2 := A2.far hb
        replace B := B.trans (hb.mono B.size)
        replace ha := ha.far hb
        replace hc := hc.far hb
        replace hq := hq.far hb
        replace hG := gr_step hG hb
        clear hb
        go_wp2
        try refine ⟨hG, ?_⟩
        clear hG
        intro V2 hG hb
        replace A2 := A2.far hb
        replace B := B.trans (hb.mono B.size)
        replace hq := hq.far hb
        replace hr := hr.far hb
        clear hb
        go_wp2
        try refine ⟨hG, ?_⟩
        clear hG
        intro V3 hG hb
        replace A2 := A2.far hb
        replace B := B.trans (hb.mono B.size)
        replace hq := hq.far hb
        replace hr := hr.far hb
        clear hb
        obtain ⟨⟨k0, k1, k2, k3, k4, k5⟩, f0, f1', f2', f3, f4, f5⟩ := A2.six
        have HV : Wd V3 (.agg #[.bool s2, .slice (some ⟨g4, 0, none⟩) l4 p4, .slice (some ⟨g3, 0, none⟩) l3 p3, .bool false, .int .i64 0, .int .i64 0]) (P * S + R * Q) (Q * S) (e1 + e2 + 1) := ⟨s2, g4, l4, p4, M * D - N * E, g3, l3, p3, D * E, false, 0, 0, rfl, ⟨hr, hq, Nat.mul_pos hD0 hE0, (((hx2.2.2.2.1.mul hx1.2.2.2.2.1)).le (Nat.sub_le _ _)).up (by omega), (hx1.2.2.2.2.1.mul hx2.2.2.2.2.1).up (by omega), fun h => by cases h⟩, by
          have a1 := HE1.out
          have a2 := HE2.out
          clear ha hc hr hq hx1 hx2 k0 k1 k2 k3 k4 k5 f0 f1' f2' f3 f4 f5
          rw [show M * D - N * E = kk by omega, hsg]
          have hk2 : ((M : Int) * D) = N * E + kk := by exact_mod_cast hkk
          push_cast
          clear hkk hcm
          grind⟩
        have HP := A2.put6 (.bool s2) (.slice (some ⟨g4, 0, none⟩) l4 p4) (.slice (some ⟨g3, 0, none⟩) l3 p3) (.bool false) (.int .i64 0) (.int .i64 0)
        have HB9 := below_put6 B (show w.heap.size ≤ w.heap.size + 1 + 1 by omega) (.bool s2) (.slice (some ⟨g4, 0, none⟩) l4 p4) (.slice (some ⟨g3, 0, none⟩) l3 p3) (.bool false) (.int .i64 0) (.int .i64 0)
        have HG9 := gr_put6 hG (.inl rfl) (.bool s2) (.slice (some ⟨g4, 0, none⟩) l4 p4) (.slice (some ⟨g3, 0, none⟩) l3 p3) (.bool false) (.int .i64 0) (.int .i64 0)
        have HWD := HV.kept6 k0 (.bool s2) (.slice (some ⟨g4, 0, none⟩) l4 p4) (.slice (some ⟨g3, 0, none⟩) l3 p3) (.bool false) (.int .i64 0) (.int .i64 0)
        clear A2 HV B hG ha hc hr hq hx1 hx2
        go_wp2
        refine ⟨HG9, ?_⟩
        clear HG9 k0 k1 k2 k3 k4 k5 f0 f1' f2' f3 f4 f5
        unfold put6 at HP HB9 HWD
        generalize World.setCell _ ⟨w.heap.size + 1 + 1, 5, none⟩ _ = V at HP HB9 HWD ⊢
        intro V9 hG hb
        replace HP := HP.far hb
        replace HB9 := HB9.trans (hb.mono HB9.size)
        replace HWD := HWD.far hb
        clear hG hb
        obtain ⟨⟨k0, k1, k2, k3, k4, k5⟩, _⟩ := HP.six
        go_wp2
        refine bodyPost_ret (v := .agg #[.bool s2, .slice (some ⟨g4, 0, none⟩) l4 p4, .slice (some ⟨g3, 0, none⟩) l3 p3, .bool false, .int .i64 0, .int .i64 0]) (by simp [results, Try.results132, go_sem, k0, k1, k2, k3, k4, k5]) rfl ⟨_, rfl, HWD, HB9⟩
      · have hc0 : ¬ c3 (N * E) (M * D) < 0 := by unfold c3; rw [if_neg hcm]; split <;> omega
        obtain ⟨kk, hkk⟩ : ∃ kk, N * E = M * D + kk := ⟨N * E - M * D, by omega⟩
        obtain ⟨tt, htt⟩ : ∃ tt, c3 (N * E) (M * D) = tt := ⟨_, rfl⟩
        rw [htt] at hc0 ⊢
        clear htt
        obtain ⟨⟨x0, x1, x2, x3, x4, x5⟩, _⟩ := A0.six
        obtain ⟨⟨y0, y1, y2, y3, y4, y5⟩, _⟩ := A1.six
        go_upto_region 12 with fail
        clear x0 x1 x2 x3 x4 x5 y0 y1 y2 y3 y4 y5
        have qa0 := (A0.drew).gr (rw := some (w.heap.size + 1 + 1)) (fun e => by have := Option.some.inj e; omega) 0 rfl
        clear A0 A1
        refine wp_region_mix (some (w.heap.size + 1 + 1)) [0, 1, 2, 3, 5] [4, 6, 7] (by kernel_rfl) (by kernel_rfl) ?_
        simp only [pickOps, List.filterMap_cons, List.filterMap_nil, List.getElem?_toArray, List.getElem?_cons_succ, List.getElem?_cons_zero]
        repeat (refine wpQuietG_step (fun K hK => ?_); go_simp; first | (refine hK _ ?_; clear hK K) | (apply Exists.intro; refine ⟨fun _ => ?_, hK _ ?_⟩; (fail); clear hK K))
        refine wpQuietG_nil ?_
        clear qa0
        intro V1 hG hb
        replace A2 := A2.far (of_drew hb)
        replace B := B.trans ((of_drew hb).mono B.size)
        replace ha := ha.far (of_drew hb)
        replace hc := hc.far (of_drew hb)
        replace hq := hq.far (of_drew hb)
        clear hb
        go_wp2_with fail
        refine (bminus_any _ _ _ _ _ _ (N * E) (M * D) _ ha hc (by omega) (by omega)).mono ?_
        rintro e U4 ⟨g4, l4, p4, rfl, hr, hb⟩
        replace A2 := A2.far hb
        replace B := B.trans (hb.mono B.size)
        replace ha := ha.far hb
        replace hc := hc.far hb
        replace hq := hq.far hb
        replace hG := gr_step hG hb
        clear hb
        go_wp2
        try refine ⟨hG, ?_⟩
        clear hG
        intro V2 hG hb
        replace A2 := A2.far hb
        replace B := B.trans (hb.mono B.size)
        replace hq := hq.far hb
        replace hr := hr.far hb
        clear hb
        go_wp2
        try refine ⟨hG, ?_⟩
        clear hG
        intro V3 hG hb
        replace A2 := A2.far hb
        replace B := B.trans (hb.mono B.size)
        replace hq := hq.far hb
        replace hr := hr.far hb
        clear hb
        obtain ⟨⟨k0, k1, k2, k3, k4, k5⟩, f0, f1', f2', f3, f4, f5⟩ := A2.six
        have HV : Wd V3 (.agg #[.bool s1, .slice (some ⟨g4, 0, none⟩) l4 p4, .slice (some ⟨g3, 0, none⟩) l3 p3, .bool false, .int .i64 0, .int .i64 0]) (P * S + R * Q) (Q * S) (e1 + e2 + 1) := ⟨s1, g4, l4, p4, N * E - M * D, g3, l3, p3, D * E, false, 0, 0, rfl, ⟨hr, hq, Nat.mul_pos hD0 hE0, (((hx1.2.2.2.1.mul hx2.2.2.2.2.1)).le (Nat.sub_le _ _)).up (by omega), (hx1.2.2.2.2.1.mul hx2.2.2.2.2.1).up (by omega), fun h => by cases h⟩, by
          have a1 := HE1.out
          have a2 := HE2.out
          clear ha hc hr hq hx1 hx2 k0 k1 k2 k3 k4 k5 f0 f1' f2' f3 f4 f5
          rw [show N * E - M * D = kk by omega]
          rw [hsg] at a2
          have hk2 : ((N : Int) * E) = M * D + kk := by exact_mod_cast hkk
          push_cast
          clear hkk hcm
          grind⟩
        have HP := A2.put6 (.bool s1) (.slice (some ⟨g4, 0, none⟩) l4 p4) (.slice (some ⟨g3, 0, none⟩) l3 p3) (.bool false) (.int .i64 0) (.int .i64 0)
        have HB9 := below_put6 B (show w.heap.size ≤ w.heap.size + 1 + 1 by omega) (.bool s1) (.slice (some ⟨g4, 0, none⟩) l4 p4) (.slice (some ⟨g3, 0, none⟩) l3 p3) (.bool false) (.int .i64 0) (.int .i64 0)
        have HG9 := gr_put6 hG (.inl rfl) (.bool s1) (.slice (some ⟨g4, 0, none⟩) l4 p4) (.slice (some ⟨g3, 0, none⟩) l3 p3) (.bool false) (.int .i64 0) (.int .i64 0)
        have HWD := HV.kept6 k0 (.bool s1) (.slice (some ⟨g4, 0, none⟩) l4 p4) (.slice (some ⟨g3, 0, none⟩) l3 p3) (.bool false) (.int .i64 0) (.int .i64 0)
        clear A2 HV B hG ha hc hr hq hx1 hx2
        go_wp2
        refine ⟨HG9, ?_⟩
        clear HG9 k0 k1 k2 k3 k4 k5 f0 f1' f2' f3 f4 f5
        unfold put6 at HP HB9 HWD
        generalize World.setCell _ ⟨w.heap.size + 1 + 1, 5, none⟩ _ = V at HP HB9 HWD ⊢
        intro V9 hG hb
        replace HP := HP.far hb
        replace HB9 := HB9.trans (hb.mono HB9.size)
        replace HWD := HWD.far hb
        clear hG hb
        obtain ⟨⟨k0, k1, k2, k3, k4, k5⟩, _⟩ := HP.six
        go_wp2
        refine bodyPost_ret (v := .agg #[.bool s1, .slice (some ⟨g4, 0, none⟩) l4 p4, .slice (some ⟨g3, 0, none⟩) l3 p3, .bool false, .int .i64 0, .int .i64 0]) (by simp [results, Try.results132, go_sem, k0, k1, k2, k3, k4, k5]) rfl ⟨_, rfl, HWD, HB9⟩end Go.Proofs.Ytmnnpkmjamhmcab
