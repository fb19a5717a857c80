/- WdM, WdX in one text (tools/merge.py). -/
import Derived.Test.YtmnnpkmjamhmcabNu
import Derived.Test.YtmnnpkmjamhmcabAddFr
import Derived.Test.YtmnnpkmjamhmcabFrMul
import Derived.Test.YtmnnpkmjamhmcabWd
namespace Go.Proofs.Ytmnnpkmjamhmcab
open Go Go.RowKit

theorem gcdI_dvd (a b : Int) : gcdI a b ∣ a ∧ gcdI a b ∣ b := ⟨by unfold gcdI; exact Int.gcd_dvd_left .., by unfold gcdI; exact Int.gcd_dvd_right ..⟩
theorem addV_val {fn fd gn gd n d : Int} (hf : VF fn fd) (hg : VF gn gd) (h : addV fn fd gn gd n d true) : VF n d ∧ n * (fd * gd) = (fn * gd + gn * fd) * d := by
  obtain ⟨G, a, b, c, e, S, N, D, hG, G1, G2, ha, hb, a1, a2, b1, b2, hS, c1, c2, hc, he, e1, e2, hN, hD, eN, eD, D1, gND, _⟩ := add_all fn fd gn gd hf hg
  rcases h with ⟨⟨h1, h2⟩, rfl, rfl, _⟩ | ⟨_, _, _, h⟩
  · rw [eN] at h1 ⊢
    rw [eD] at h2 ⊢
    refine ⟨⟨D1, h2.2, h1.1, h1.2, gND⟩, ?_⟩
    have d1 : a * G = fd := by rw [← ha]; exact Int.tdiv_mul_cancel (by rw [← hG]; exact (gcdI_dvd fd gd).1)
    have d2 : b * G = gd := by rw [← hb]; exact Int.tdiv_mul_cancel (by rw [← hG]; exact (gcdI_dvd fd gd).2)
    have hcG : c ∣ G := by rw [← hc]; exact (gcdI_dvd S G).2
    have hcS : c ∣ S := by rw [← hc]; exact (gcdI_dvd S G).1
    have hcg : c ∣ gd := by rw [← d2]; exact Int.dvd_trans hcG (Int.dvd_mul_left b G)
    have d3 : e * c = gd := by rw [← he]; exact Int.tdiv_mul_cancel hcg
    have d4 : N * c = S := by rw [← hN]; exact Int.tdiv_mul_cancel hcS
    clear h1 h2 eN eD gND ha hb hc he hN hG hcG hcS hcg
    subst hD
    grind
  · cases h
theorem mulV_val {fn fd gn gd n d : Int} (hf : VF fn fd) (hg : VF gn gd) (h : mulV fn fd gn gd n d true) : VF n d ∧ n * (fd * gd) = fn * gn * d := by
  obtain ⟨p, q, a, b, c, e, hp, hq, p1, q1, ha, hb, hc, he, _, _, hc1, he1, eN, eD⟩ := mul_all fn fd gn gd hf hg
  rcases h with ⟨⟨h1, h2⟩, rfl, rfl, _⟩ | ⟨_, _, _, h⟩
  · rw [eN] at h1 ⊢
    rw [eD] at h2 ⊢
    have d1 : a * p = fn := by rw [← ha]; exact Int.tdiv_mul_cancel (by rw [← hp]; exact (gcdI_dvd fn gd).1)
    have d2 : e * p = gd := by rw [← he]; exact Int.tdiv_mul_cancel (by rw [← hp]; exact (gcdI_dvd fn gd).2)
    have d3 : b * q = gn := by rw [← hb]; exact Int.tdiv_mul_cancel (by rw [← hq]; exact (gcdI_dvd gn fd).1)
    have d4 : c * q = fd := by rw [← hc]; exact Int.tdiv_mul_cancel (by rw [← hq]; exact (gcdI_dvd gn fd).2)
    have f0 := hf.1
    have g0 := hg.1
    have hc0 : 0 < c := by
      by_cases h : 0 < c
      · exact h
      · have : c * q ≤ 0 := Int.mul_nonpos_of_nonpos_of_nonneg (by omega) (by omega)
        omega
    have he0 : 0 < e := by
      by_cases h : 0 < e
      · exact h
      · have : e * p ≤ 0 := Int.mul_nonpos_of_nonpos_of_nonneg (by omega) (by omega)
        omega
    have cop : Nat.Coprime (a * b).natAbs (c * e).natAbs := by
      have n1 : a.natAbs * p.natAbs = fn.natAbs := by rw [← Int.natAbs_mul, d1]
      have n2 : e.natAbs * p.natAbs = gd.natAbs := by rw [← Int.natAbs_mul, d2]
      have n3 : b.natAbs * q.natAbs = gn.natAbs := by rw [← Int.natAbs_mul, d3]
      have n4 : c.natAbs * q.natAbs = fd.natAbs := by rw [← Int.natAbs_mul, d4]
      have cf := hf.cop
      have cg := hg.cop
      have gp : Nat.gcd fn.natAbs gd.natAbs = p.natAbs := by rw [← hp]; unfold gcdI Int.gcd; simp
      have gq : Nat.gcd gn.natAbs fd.natAbs = q.natAbs := by rw [← hq]; unfold gcdI Int.gcd; simp
      have k1 : Nat.Coprime a.natAbs e.natAbs := by
        have : Nat.gcd a.natAbs e.natAbs * p.natAbs = p.natAbs := by rw [← Nat.gcd_mul_right, n1, n2, gp]
        have hp0 : 0 < p.natAbs := by omega
        exact Nat.eq_of_mul_eq_mul_right hp0 (by rw [this, Nat.one_mul])
      have k2 : Nat.Coprime b.natAbs c.natAbs := by
        have : Nat.gcd b.natAbs c.natAbs * q.natAbs = q.natAbs := by rw [← Nat.gcd_mul_right, n3, n4, gq]
        have hq0 : 0 < q.natAbs := by omega
        exact Nat.eq_of_mul_eq_mul_right hq0 (by rw [this, Nat.one_mul])
      have k3 : Nat.Coprime a.natAbs c.natAbs := by
        rw [← n1, ← n4] at cf
        exact Nat.Coprime.coprime_mul_right (Nat.Coprime.coprime_mul_right_right cf)
      have k4 : Nat.Coprime b.natAbs e.natAbs := by
        rw [← n3, ← n2] at cg
        exact Nat.Coprime.coprime_mul_right (Nat.Coprime.coprime_mul_right_right cg)
      rw [Int.natAbs_mul, Int.natAbs_mul]
      exact Nat.Coprime.mul_left (Nat.Coprime.mul_right k3 k1) (Nat.Coprime.mul_right k2 k4)
    refine ⟨⟨by have := Int.mul_pos hc0 he0; omega, h2.2, h1.1, h1.2, ?_⟩, ?_⟩
    · unfold gcdI Int.gcd
      exact congrArg Int.ofNat cop
    · clear h1 h2 eN eD cop ha hb hc he hp hq
      grind
  · cases h
end Go.Proofs.Ytmnnpkmjamhmcab

namespace Go.Proofs.Ytmnnpkmjamhmcab
open Go.RowKit Go.PlainAid
set_option maxHeartbeats 1600000
set_option maxRecDepth 20000

theorem DL.three (w : World) (x y z : Value) (l1 l2 l3 : List Value) (t1 t2 t3 : TypeId) :
    DL (((w.alloc (.cells (x :: l1).toArray t1)).alloc (.cells (y :: l2).toArray t2)).alloc (.cells (z :: l3).toArray t3)) w.heap.size (x :: l1) ∧
    DL (((w.alloc (.cells (x :: l1).toArray t1)).alloc (.cells (y :: l2).toArray t2)).alloc (.cells (z :: l3).toArray t3)) (w.heap.size + 1) (y :: l2) ∧
    DL (((w.alloc (.cells (x :: l1).toArray t1)).alloc (.cells (y :: l2).toArray t2)).alloc (.cells (z :: l3).toArray t3)) (w.heap.size + 1 + 1) (z :: l3) ∧
    Below w.heap.size w (((w.alloc (.cells (x :: l1).toArray t1)).alloc (.cells (y :: l2).toArray t2)).alloc (.cells (z :: l3).toArray t3)) := by
  have a1 := DL.new w (x :: l1) t1
  have b1 := (Below.refl w.heap.size w).alloc (Nat.le_refl _) (.cells (x :: l1).toArray t1)
  have e1 : (w.alloc (.cells (x :: l1).toArray t1)).heap.size = w.heap.size + 1 := by simp
  generalize w.alloc (.cells (x :: l1).toArray t1) = w1 at *
  have a2 := DL.new w1 (y :: l2) t2
  have b2 := b1.alloc b1.size (.cells (y :: l2).toArray t2)
  replace a1 := a1.alloc (.cells (y :: l2).toArray t2)
  have e2 : (w1.alloc (.cells (y :: l2).toArray t2)).heap.size = w.heap.size + 1 + 1 := by simp [e1]
  rw [e1] at a2
  generalize w1.alloc (.cells (y :: l2).toArray t2) = w2 at *
  have a3 := DL.new w2 (z :: l3) t3
  rw [e2] at a3
  exact ⟨a1.alloc _, a2.alloc _, a3, b2.alloc b2.size _⟩
theorem Wd.kept6 {W : World} {v : Value} {P Q : Int} {e : Nat} {b : Nat} {x : Bool} (h : Wd W v P Q e) (hb : W.cell? ⟨b, 0, none⟩ = some (.bool x)) (x0 x1 x2 x3 x4 x5 : Value) : Wd (put6 W b x0 x1 x2 x3 x4 x5) v P Q e := by
  obtain ⟨s, g1, l1, c1, N, g2, l2, c2, D, fine, fn, fd, h1, h2, h3⟩ := h
  exact ⟨s, g1, l1, c1, N, g2, l2, c2, D, fine, fn, fd, h1, ⟨h2.1.kept6 hb .., h2.2.1.kept6 hb .., h2.2.2⟩, h3⟩
theorem Wd.eqv {W : World} {v : Value} {P Q P' Q' : Int} {e : Nat} (h : Wd W v P Q e) (hQ : Q ≠ 0) (he : P * Q' = P' * Q) : Wd W v P' Q' e := by
  obtain ⟨s, g1, l1, c1, N, g2, l2, c2, D, fine, fn, fd, h1, h2, h3⟩ := h
  exact ⟨s, g1, l1, c1, N, g2, l2, c2, D, fine, fn, fd, h1, h2, Int.eq_of_mul_eq_mul_right hQ (by grind)⟩
theorem sg_ne (s t : Bool) : sg (!(s == t)) = sg s * sg t := by cases s <;> cases t <;> decide
theorem wmul_any (v1 v2 : Value) (P Q R S : Int) (e1 e2 : Nat) (w : World) (h1 : Wd w v1 P Q e1) (h2 : Wd w v2 R S e2) (b1 : 60 ≤ e1) (b2 : 60 ≤ e2) (c1 : e1 ≤ 5000000) (c2 : e2 ≤ 5000000) (_hQ : Q ≠ 0) (_hS : S ≠ 0) :
    Calls Try.prog 133 #[v1, v2] w fun e w' => ∃ v, e = .returned v ∧ Wd w' v (P * R) (Q * S) (e1 + e2) ∧ Below w.heap.size w w' := by
  obtain ⟨s1, ga, la, ca, N, gb, lb, cb, D, f1, fn, fd, rfl, hW1, hE1⟩ := h1
  obtain ⟨s2, gc, lc, cc, M, gd, ld, cd, E, f2, hn, hd, rfl, hW2, hE2⟩ := h2
  have HW1 := Lib.hid hW1
  have HW2 := Lib.hid hW2
  have HE1 := Lib.hid hE1
  have HE2 := Lib.hid hE2
  have hla := hW1.2.2.2.1.len30 (K := 200000) (by omega) hW1.1.2.1
  have hlb := hW1.2.2.2.2.1.len30 (K := 200000) (by omega) hW1.2.1.2.1
  have hlc := hW2.2.2.2.1.len30 (K := 200000) (by omega) hW2.1.2.1
  have hld := hW2.2.2.2.2.1.len30 (K := 200000) (by omega) hW2.2.1.2.1
  have hD0 := hW1.2.2.1
  have hE0 := hW2.2.2.1
  have HF : Hid (f1 = true → f2 = true → VF fn fd ∧ VF hn hd ∧ fn * Q = P * fd ∧ hn * S = R * hd) := fun q1 q2 => by
    obtain ⟨x1, x2, x3⟩ := hW1.2.2.2.2.2 q1
    obtain ⟨y1, y2, y3⟩ := hW2.2.2.2.2.2 q2
    exact ⟨x1, y1, by rw [x2, x3]; exact hE1, by rw [y2, y3]; exact hE2⟩
  clear hW1 hW2 hE1 hE2
  obtain ⟨A0, A1, A2, B⟩ := DL.three w (.bool s1) (.bool s2) (.bool false) [.slice (some ⟨ga, 0, none⟩) la ca, .slice (some ⟨gb, 0, none⟩) lb cb, .bool f1, .int .i64 fn, .int .i64 fd] [.slice (some ⟨gc, 0, none⟩) lc cc, .slice (some ⟨gd, 0, none⟩) ld cd, .bool f2, .int .i64 hn, .int .i64 hd] [.slice none 0 0, .slice none 0 0, .bool false, .int .i64 0, .int .i64 0] 115 115 115
  go_enter Try.func133, Try.ntmps133
  go_upto_region 1 with fail
  generalize ((w.alloc (.cells _ _)).alloc (.cells _ _)).alloc (.cells _ _) = w1 at A0 A1 A2 B ⊢
  by_cases q1 : f1 = true
  · subst q1
    by_cases q2 : f2 = true
    · subst q2
      obtain ⟨hv1, hv2, hq1, hq2⟩ := HF.out rfl rfl
      obtain ⟨⟨x0, x1, x2, x3, x4, x5⟩, _⟩ := A0.six
      obtain ⟨⟨y0, y1, y2, y3, y4, y5⟩, _⟩ := A1.six
      go_wp2_with fail
      refine (fmul_any fn fd hn hd hv1 hv2 _).mono ?_
      rintro e w2 ⟨n, d, ok, rfl, hv, hb⟩
      clear x0 x1 x2 x3 x4 x5 y0 y1 y2 y3 y4 y5
      replace A0 := A0.far hb
      replace A1 := A1.far hb
      replace A2 := A2.far hb
      replace B := B.trans (hb.mono B.size)
      clear hb
      have D5 := D2.new w2 (.int .i64 n) (.int .i64 d) 27
      replace A0 := A0.alloc (.cells #[.int .i64 n, .int .i64 d] 27)
      replace A1 := A1.alloc (.cells #[.int .i64 n, .int .i64 d] 27)
      replace A2 := A2.alloc (.cells #[.int .i64 n, .int .i64 d] 27)
      replace B := B.alloc B.size (.cells #[.int .i64 n, .int .i64 d] 27)
      rcases ok with _ | _
      · go_upto_region 5 with fail
        generalize w2.alloc (.cells #[.int .i64 n, .int .i64 d] 27) = w4 at A0 A1 A2 B ⊢
        clear D5 hv hq1 hq2 hv1 hv2
        have hx1 := HW1.out.far B
        have hx2 := HW2.out.far B
        obtain ⟨sb, hsb⟩ : ∃ sb, (!(s1 == s2)) = sb := ⟨_, rfl⟩
        have qa0 := (A0.drew).gr (rw := some (w.heap.size + 1 + 1)) (fun e => by have := Option.some.inj e; omega) 0 rfl
        have qa1 := (A0.drew).gr (rw := some (w.heap.size + 1 + 1)) (fun e => by have := Option.some.inj e; omega) 1 rfl
        have qa2 := (A0.drew).gr (rw := some (w.heap.size + 1 + 1)) (fun e => by have := Option.some.inj e; omega) 2 rfl
        have qb0 := (A1.drew).gr (rw := some (w.heap.size + 1 + 1)) (fun e => by have := Option.some.inj e; omega) 0 rfl
        have qb1 := (A1.drew).gr (rw := some (w.heap.size + 1 + 1)) (fun e => by have := Option.some.inj e; omega) 1 rfl
        have qb2 := (A1.drew).gr (rw := some (w.heap.size + 1 + 1)) (fun e => by have := Option.some.inj e; omega) 2 rfl
        clear A0 A1
        refine wp_region_mix (some (w.heap.size + 1 + 1)) [0, 1, 2, 3, 4, 5, 6, 7, 8, 10, 11, 12, 13] [9, 14, 15, 16] (by kernel_rfl) (by kernel_rfl) ?_
        simp only [pickOps, List.filterMap_cons, List.filterMap_nil, List.getElem?_toArray, List.getElem?_cons_succ, List.getElem?_cons_zero]
        repeat (refine wpQuietG_step (fun K hK => ?_); go_simp; first | (refine hK _ ?_; clear hK K) | (apply Exists.intro; refine ⟨fun _ => ?_, hK _ ?_⟩; (fail); clear hK K))
        refine wpQuietG_nil ?_
        clear qa0 qa1 qa2 qb0 qb1 qb2
        intro V1 hG hb
        replace A2 := A2.far (of_drew hb)
        replace B := B.trans ((of_drew hb).mono B.size)
        replace hx1 := hx1.far (of_drew hb)
        replace hx2 := hx2.far (of_drew hb)
        clear hb
        go_wp2_with fail
        refine (btimes_any _ _ _ _ _ _ N M _ hx1.1 hx2.1 (by omega) (by omega)).mono ?_
        rintro e U1 ⟨g1, l1, p1, rfl, ha, hb⟩
        replace A2 := A2.far hb
        replace B := B.trans (hb.mono B.size)
        replace hx1 := hx1.far hb
        replace hx2 := hx2.far hb
        replace hG := gr_step hG hb
        clear hb
        go_wp2
        try refine ⟨hG, ?_⟩
        clear hG
        intro V2 hG hb
        replace A2 := A2.far hb
        replace B := B.trans (hb.mono B.size)
        replace hx1 := hx1.far hb
        replace hx2 := hx2.far hb
        replace ha := ha.far hb
        clear hb
        go_wp2_with fail
        refine (btimes_any _ _ _ _ _ _ D E _ hx1.2.1 hx2.2.1 (by omega) (by omega)).mono ?_
        rintro e U2 ⟨g2, l2, p2, rfl, hc, hb⟩
        replace A2 := A2.far hb
        replace B := B.trans (hb.mono B.size)
        replace hx1 := hx1.far hb
        replace hx2 := hx2.far hb
        replace ha := ha.far hb
        replace hG := gr_step hG hb
        clear hb
        go_wp2
        try refine ⟨hG, ?_⟩
        clear hG
        intro V3 hG hb
        replace A2 := A2.far hb
        replace B := B.trans (hb.mono B.size)
        replace hx1 := hx1.far hb
        replace hx2 := hx2.far hb
        replace ha := ha.far hb
        replace hc := hc.far hb
        clear hb
        go_wp2
        try refine ⟨hG, ?_⟩
        clear hG
        intro V4 hG hb
        replace A2 := A2.far hb
        replace B := B.trans (hb.mono B.size)
        replace hx1 := hx1.far hb
        replace hx2 := hx2.far hb
        replace ha := ha.far hb
        replace hc := hc.far hb
        clear hb
        obtain ⟨⟨k0, k1, k2, k3, k4, k5⟩, f0, f1', f2', f3, f4, f5⟩ := A2.six
        have HV : Wd V4 (.agg #[.bool sb, .slice (some ⟨g1, 0, none⟩) l1 p1, .slice (some ⟨g2, 0, none⟩) l2 p2, .bool false, .int .i64 0, .int .i64 0]) (P * R) (Q * S) (e1 + e2) := ⟨sb, g1, l1, p1, N * M, g2, l2, p2, D * E, false, 0, 0, rfl, ⟨ha, hc, Nat.mul_pos hD0 hE0, hx1.2.2.2.1.mul hx2.2.2.2.1, hx1.2.2.2.2.1.mul hx2.2.2.2.2.1, fun h => by cases h⟩, by
          rw [← hsb, sg_ne]
          have a1 := HE1.out
          have a2 := HE2.out
          push_cast
          clear ha hc hx1 hx2
          grind⟩
        have HP := A2.put6 (.bool sb) (.slice (some ⟨g1, 0, none⟩) l1 p1) (.slice (some ⟨g2, 0, none⟩) l2 p2) (.bool false) (.int .i64 0) (.int .i64 0)
        have HB9 := below_put6 B (show w.heap.size ≤ w.heap.size + 1 + 1 by omega) (.bool sb) (.slice (some ⟨g1, 0, none⟩) l1 p1) (.slice (some ⟨g2, 0, none⟩) l2 p2) (.bool false) (.int .i64 0) (.int .i64 0)
        have HG9 := gr_put6 hG (.inl rfl) (.bool sb) (.slice (some ⟨g1, 0, none⟩) l1 p1) (.slice (some ⟨g2, 0, none⟩) l2 p2) (.bool false) (.int .i64 0) (.int .i64 0)
        have HWD := HV.kept6 k0 (.bool sb) (.slice (some ⟨g1, 0, none⟩) l1 p1) (.slice (some ⟨g2, 0, none⟩) l2 p2) (.bool false) (.int .i64 0) (.int .i64 0)
        clear A2 HV B hG ha hc hx1 hx2
        go_wp2
        refine ⟨HG9, ?_⟩
        clear HG9 k0 k1 k2 k3 k4 k5 f0 f1' f2' f3 f4 f5
        unfold put6 at HP HB9 HWD
        generalize World.setCell _ ⟨w.heap.size + 1 + 1, 5, none⟩ _ = V at HP HB9 HWD ⊢
        intro V9 hG hb
        replace HP := HP.far hb
        replace HB9 := HB9.trans (hb.mono HB9.size)
        replace HWD := HWD.far hb
        clear hG hb
        obtain ⟨⟨k0, k1, k2, k3, k4, k5⟩, _⟩ := HP.six
        go_wp2
        refine bodyPost_ret (v := .agg #[.bool sb, .slice (some ⟨g1, 0, none⟩) l1 p1, .slice (some ⟨g2, 0, none⟩) l2 p2, .bool false, .int .i64 0, .int .i64 0]) (by simp [results, Try.results133, go_sem, k0, k1, k2, k3, k4, k5]) rfl ⟨_, rfl, HWD, HB9⟩
      · go_upto_region 4 with fail
        generalize w2.alloc (.cells #[.int .i64 n, .int .i64 d] 27) = w4 at A0 A1 A2 B D5 ⊢
        generalize w2.heap.size = g5 at D5 ⊢
        obtain ⟨⟨z0, z1⟩, _⟩ := id D5
        obtain ⟨hVF, hval⟩ := mulV_val hv1 hv2 hv.out
        have hdp := hVF.1
        have hf1 := hv1.1
        have hf2 := hv2.1
        go_wp2_with fail
        refine (wideOf_any n d hVF _).mono ?_
        rintro e w3 ⟨v, rfl, hWd, hb⟩
        replace A2 := A2.far hb
        replace B := B.trans (hb.mono B.size)
        clear hb A0 A1 D5
        have HV : Wd w3 v (P * R) (Q * S) (e1 + e2) := (hWd.eqv (by omega) (by
          have hne : fd * hd ≠ 0 := Int.mul_ne_zero (by omega) (by omega)
          refine Int.eq_of_mul_eq_mul_right hne ?_
          clear hWd
          grind)).up (by omega)
        clear hWd hval hVF hv hq1 hq2
        obtain ⟨s, g1, l1, c1', N', g2, l2, c2', D', fine, fn', fd', rfl, _⟩ := id HV
        obtain ⟨⟨k0, k1, k2, k3, k4, k5⟩, f0, f1, f2, f3, f4, f5⟩ := A2.six
        have HP := A2.put6 (.bool s) (.slice (some ⟨g1, 0, none⟩) l1 c1') (.slice (some ⟨g2, 0, none⟩) l2 c2') (.bool fine) (.int .i64 fn') (.int .i64 fd')
        have HB9 := below_put6 B (show w.heap.size ≤ w.heap.size + 1 + 1 by omega) (.bool s) (.slice (some ⟨g1, 0, none⟩) l1 c1') (.slice (some ⟨g2, 0, none⟩) l2 c2') (.bool fine) (.int .i64 fn') (.int .i64 fd')
        have HWD := HV.kept6 k0 (.bool s) (.slice (some ⟨g1, 0, none⟩) l1 c1') (.slice (some ⟨g2, 0, none⟩) l2 c2') (.bool fine) (.int .i64 fn') (.int .i64 fd')
        clear A2 HV B
        unfold put6 at HP HB9 HWD
        go_wp2
        clear k0 k1 k2 k3 k4 k5 f0 f1 f2 f3 f4 f5
        generalize World.setCell _ ⟨w.heap.size + 1 + 1, 5, none⟩ _ = V at HP HB9 HWD ⊢
        obtain ⟨⟨k0, k1, k2, k3, k4, k5⟩, _⟩ := HP.six
        refine bodyPost_ret (v := .agg #[.bool s, .slice (some ⟨g1, 0, none⟩) l1 c1', .slice (some ⟨g2, 0, none⟩) l2 c2', .bool fine, .int .i64 fn', .int .i64 fd']) (by simp [results, Try.results133, go_sem, k0, k1, k2, k3, k4, k5]) rfl ⟨_, rfl, HWD, HB9⟩
    · have q3 : f2 = false := by simpa using q2
      subst q3
      obtain ⟨⟨x0, x1, x2, x3, x4, x5⟩, _⟩ := A0.six
      obtain ⟨⟨y0, y1, y2, y3, y4, y5⟩, _⟩ := A1.six
      go_upto_region 5 with fail
      clear x0 x1 x2 x3 x4 x5 y0 y1 y2 y3 y4 y5
      have hx1 := HW1.out.far B
      have hx2 := HW2.out.far B
      obtain ⟨sb, hsb⟩ : ∃ sb, (!(s1 == s2)) = sb := ⟨_, rfl⟩
      have qa0 := (A0.drew).gr (rw := some (w.heap.size + 1 + 1)) (fun e => by have := Option.some.inj e; omega) 0 rfl
      have qa1 := (A0.drew).gr (rw := some (w.heap.size + 1 + 1)) (fun e => by have := Option.some.inj e; omega) 1 rfl
      have qa2 := (A0.drew).gr (rw := some (w.heap.size + 1 + 1)) (fun e => by have := Option.some.inj e; omega) 2 rfl
      have qb0 := (A1.drew).gr (rw := some (w.heap.size + 1 + 1)) (fun e => by have := Option.some.inj e; omega) 0 rfl
      have qb1 := (A1.drew).gr (rw := some (w.heap.size + 1 + 1)) (fun e => by have := Option.some.inj e; omega) 1 rfl
      have qb2 := (A1.drew).gr (rw := some (w.heap.size + 1 + 1)) (fun e => by have := Option.some.inj e; omega) 2 rfl
      clear A0 A1
      refine wp_region_mix (some (w.heap.size + 1 + 1)) [0, 1, 2, 3, 4, 5, 6, 7, 8, 10, 11, 12, 13] [9, 14, 15, 16] (by kernel_rfl) (by kernel_rfl) ?_
      simp only [pickOps, List.filterMap_cons, List.filterMap_nil, List.getElem?_toArray, List.getElem?_cons_succ, List.getElem?_cons_zero]
      repeat (refine wpQuietG_step (fun K hK => ?_); go_simp; first | (refine hK _ ?_; clear hK K) | (apply Exists.intro; refine ⟨fun _ => ?_, hK _ ?_⟩; (fail); clear hK K))
      refine wpQuietG_nil ?_
      clear qa0 qa1 qa2 qb0 qb1 qb2
      intro V1 hG hb
      replace A2 := A2.far (of_drew hb)
      replace B := B.trans ((of_drew hb).mono B.size)
      replace hx1 := hx1.far (of_drew hb)
      replace hx2 := hx2.far (of_drew hb)
      clear hb
      go_wp2_with fail
      refine (btimes_any _ _ _ _ _ _ N M _ hx1.1 hx2.1 (by omega) (by omega)).mono ?_
      rintro e U1 ⟨g1, l1, p1, rfl, ha, hb⟩
      replace A2 := A2.far hb
      replace B := B.trans (hb.mono B.size)
      replace hx1 := hx1.far hb
      replace hx2 := hx2.far hb
      replace hG := gr_step hG hb
      clear hb
      go_wp2
      try refine ⟨hG, ?_⟩
      clear hG
      intro V2 hG hb
      replace A2 := A2.far hb
      replace B := B.trans (hb.mono B.size)
      replace hx1 := hx1.far hb
      replace hx2 := hx2.far hb
      replace ha := ha.far hb
      clear hb
      go_wp2_with fail
      refine (btimes_any _ _ _ _ _ _ D E _ hx1.2.1 hx2.2.1 (by omega) (by omega)).mono ?_
      rintro e U2 ⟨g2, l2, p2, rfl, hc, hb⟩
      replace A2 := A2.far hb
      replace B := B.trans (hb.mono B.size)
      replace hx1 := hx1.far hb
      replace hx2 := hx2.far hb
      replace ha := ha.far hb
      replace hG := gr_step hG hb
      clear hb
      go_wp2
      try refine ⟨hG, ?_⟩
      clear hG
      intro V3 hG hb
      replace A2 := A2.far hb
      replace B := B.trans (hb.mono B.size)
      replace hx1 := hx1.far hb
      replace hx2 := hx2.far hb
      replace ha := ha.far hb
      replace hc := hc.far hb
      clear hb
      go_wp2
      try refine ⟨hG, ?_⟩
      clear hG
      intro V4 hG hb
      replace A2 := A2.far hb
      replace B := B.trans (hb.mono B.size)
      replace hx1 := hx1.far hb
      replace hx2 := hx2.far hb
      replace ha := ha.far hb
      replace hc := hc.far hb
      clear hb
      obtain ⟨⟨k0, k1, k2, k3, k4, k5⟩, f0, f1', f2', f3, f4, f5⟩ := A2.six
      have HV : Wd V4 (.agg #[.bool sb, .slice (some ⟨g1, 0, none⟩) l1 p1, .slice (some ⟨g2, 0, none⟩) l2 p2, .bool false, .int .i64 0, .int .i64 0]) (P * R) (Q * S) (e1 + e2) := ⟨sb, g1, l1, p1, N * M, g2, l2, p2, D * E, false, 0, 0, rfl, ⟨ha, hc, Nat.mul_pos hD0 hE0, hx1.2.2.2.1.mul hx2.2.2.2.1, hx1.2.2.2.2.1.mul hx2.2.2.2.2.1, fun h => by cases h⟩, by
        rw [← hsb, sg_ne]
        have a1 := HE1.out
        have a2 := HE2.out
        push_cast
        clear ha hc hx1 hx2
        grind⟩
      have HP := A2.put6 (.bool sb) (.slice (some ⟨g1, 0, none⟩) l1 p1) (.slice (some ⟨g2, 0, none⟩) l2 p2) (.bool false) (.int .i64 0) (.int .i64 0)
      have HB9 := below_put6 B (show w.heap.size ≤ w.heap.size + 1 + 1 by omega) (.bool sb) (.slice (some ⟨g1, 0, none⟩) l1 p1) (.slice (some ⟨g2, 0, none⟩) l2 p2) (.bool false) (.int .i64 0) (.int .i64 0)
      have HG9 := gr_put6 hG (.inl rfl) (.bool sb) (.slice (some ⟨g1, 0, none⟩) l1 p1) (.slice (some ⟨g2, 0, none⟩) l2 p2) (.bool false) (.int .i64 0) (.int .i64 0)
      have HWD := HV.kept6 k0 (.bool sb) (.slice (some ⟨g1, 0, none⟩) l1 p1) (.slice (some ⟨g2, 0, none⟩) l2 p2) (.bool false) (.int .i64 0) (.int .i64 0)
      clear A2 HV B hG ha hc hx1 hx2
      go_wp2
      refine ⟨HG9, ?_⟩
      clear HG9 k0 k1 k2 k3 k4 k5 f0 f1' f2' f3 f4 f5
      unfold put6 at HP HB9 HWD
      generalize World.setCell _ ⟨w.heap.size + 1 + 1, 5, none⟩ _ = V at HP HB9 HWD ⊢
      intro V9 hG hb
      replace HP := HP.far hb
      replace HB9 := HB9.trans (hb.mono HB9.size)
      replace HWD := HWD.far hb
      clear hG hb
      obtain ⟨⟨k0, k1, k2, k3, k4, k5⟩, _⟩ := HP.six
      go_wp2
      refine bodyPost_ret (v := .agg #[.bool sb, .slice (some ⟨g1, 0, none⟩) l1 p1, .slice (some ⟨g2, 0, none⟩) l2 p2, .bool false, .int .i64 0, .int .i64 0]) (by simp [results, Try.results133, go_sem, k0, k1, k2, k3, k4, k5]) rfl ⟨_, rfl, HWD, HB9⟩
  · have q3 : f1 = false := by simpa using q1
    subst q3
    obtain ⟨⟨x0, x1, x2, x3, x4, x5⟩, _⟩ := A0.six
    obtain ⟨⟨y0, y1, y2, y3, y4, y5⟩, _⟩ := A1.six
    go_upto_region 5 with fail
    clear x0 x1 x2 x3 x4 x5 y0 y1 y2 y3 y4 y5
    have hx1 := HW1.out.far B
    have hx2 := HW2.out.far B
    obtain ⟨sb, hsb⟩ : ∃ sb, (!(s1 == s2)) = sb := ⟨_, rfl⟩
    have qa0 := (A0.drew).gr (rw := some (w.heap.size + 1 + 1)) (fun e => by have := Option.some.inj e; omega) 0 rfl
    have qa1 := (A0.drew).gr (rw := some (w.heap.size + 1 + 1)) (fun e => by have := Option.some.inj e; omega) 1 rfl
    have qa2 := (A0.drew).gr (rw := some (w.heap.size + 1 + 1)) (fun e => by have := Option.some.inj e; omega) 2 rfl
    have qb0 := (A1.drew).gr (rw := some (w.heap.size + 1 + 1)) (fun e => by have := Option.some.inj e; omega) 0 rfl
    have qb1 := (A1.drew).gr (rw := some (w.heap.size + 1 + 1)) (fun e => by have := Option.some.inj e; omega) 1 rfl
    have qb2 := (A1.drew).gr (rw := some (w.heap.size + 1 + 1)) (fun e => by have := Option.some.inj e; omega) 2 rfl
    clear A0 A1
    refine wp_region_mix (some (w.heap.size + 1 + 1)) [0, 1, 2, 3, 4, 5, 6, 7, 8, 10, 11, 12, 13] [9, 14, 15, 16] (by kernel_rfl) (by kernel_rfl) ?_
    simp only [pickOps, List.filterMap_cons, List.filterMap_nil, List.getElem?_toArray, List.getElem?_cons_succ, List.getElem?_cons_zero]
    repeat (refine wpQuietG_step (fun K hK => ?_); go_simp; first | (refine hK _ ?_; clear hK K) | (apply Exists.intro; refine ⟨fun _ => ?_, hK _ ?_⟩; (fail); clear hK K))
    refine wpQuietG_nil ?_
    clear qa0 qa1 qa2 qb0 qb1 qb2
    intro V1 hG hb
    replace A2 := A2.far (of_drew hb)
    replace B := B.trans ((of_drew hb).mono B.size)
    replace hx1 := hx1.far (of_drew hb)
    replace hx2 := hx2.far (of_drew hb)
    clear hb
    go_wp2_with fail
    refine (btimes_any _ _ _ _ _ _ N M _ hx1.1 hx2.1 (by omega) (by omega)).mono ?_
    rintro e U1 ⟨g1, l1, p1, rfl, ha, hb⟩
    replace A2 := A2.far hb
    replace B := B.trans (hb.mono B.size)
    replace hx1 := hx1.far hb
    replace hx2 := hx2.far hb
    replace hG := gr_step hG hb
    clear hb
    go_wp2
    try refine ⟨hG, ?_⟩
    clear hG
    intro V2 hG hb
    replace A2 := A2.far hb
    replace B := B.trans (hb.mono B.size)
    replace hx1 := hx1.far hb
    replace hx2 := hx2.far hb
    replace ha := ha.far hb
    clear hb
    go_wp2_with fail
    refine (btimes_any _ _ _ _ _ _ D E _ hx1.2.1 hx2.2.1 (by omega) (by omega)).mono ?_
    rintro e U2 ⟨g2, l2, p2, rfl, hc, hb⟩
    replace A2 := A2.far hb
    replace B := B.trans (hb.mono B.size)
    replace hx1 := hx1.far hb
    replace hx2 := hx2.far hb
    replace ha := ha.far hb
    replace hG := gr_step hG hb
    clear hb
    go_wp2
    try refine ⟨hG, ?_⟩
    clear hG
    intro V3 hG hb
    replace A2 := A2.far hb
    replace B := B.trans (hb.mono B.size)
    replace hx1 := hx1.far hb
    replace hx2 := hx2.far hb
    replace ha := ha.far hb
    replace hc := hc.far hb
    clear hb
    go_wp2
    try refine ⟨hG, ?_⟩
    clear hG
    intro V4 hG hb
    replace A2 := A2.far hb
    replace B := B.trans (hb.mono B.size)
    replace hx1 := hx1.far hb
    replace hx2 := hx2.far hb
    replace ha := ha.far hb
    replace hc := hc.far hb
    clear hb
    obtain ⟨⟨k0, k1, k2, k3, k4, k5⟩, f0, f1', f2', f3, f4, f5⟩ := A2.six
    have HV : Wd V4 (.agg #[.bool sb, .slice (some ⟨g1, 0, none⟩) l1 p1, .slice (some ⟨g2, 0, none⟩) l2 p2, .bool false, .int .i64 0, .int .i64 0]) (P * R) (Q * S) (e1 + e2) := ⟨sb, g1, l1, p1, N * M, g2, l2, p2, D * E, false, 0, 0, rfl, ⟨ha, hc, Nat.mul_pos hD0 hE0, hx1.2.2.2.1.mul hx2.2.2.2.1, hx1.2.2.2.2.1.mul hx2.2.2.2.2.1, fun h => by cases h⟩, by
      rw [← hsb, sg_ne]
      have a1 := HE1.out
      have a2 := HE2.out
      push_cast
      clear ha hc hx1 hx2
      grind⟩
    have HP := A2.put6 (.bool sb) (.slice (some ⟨g1, 0, none⟩) l1 p1) (.slice (some ⟨g2, 0, none⟩) l2 p2) (.bool false) (.int .i64 0) (.int .i64 0)
    have HB9 := below_put6 B (show w.heap.size ≤ w.heap.size + 1 + 1 by omega) (.bool sb) (.slice (some ⟨g1, 0, none⟩) l1 p1) (.slice (some ⟨g2, 0, none⟩) l2 p2) (.bool false) (.int .i64 0) (.int .i64 0)
    have HG9 := gr_put6 hG (.inl rfl) (.bool sb) (.slice (some ⟨g1, 0, none⟩) l1 p1) (.slice (some ⟨g2, 0, none⟩) l2 p2) (.bool false) (.int .i64 0) (.int .i64 0)
    have HWD := HV.kept6 k0 (.bool sb) (.slice (some ⟨g1, 0, none⟩) l1 p1) (.slice (some ⟨g2, 0, none⟩) l2 p2) (.bool false) (.int .i64 0) (.int .i64 0)
    clear A2 HV B hG ha hc hx1 hx2
    go_wp2
    refine ⟨HG9, ?_⟩
    clear HG9 k0 k1 k2 k3 k4 k5 f0 f1' f2' f3 f4 f5
    unfold put6 at HP HB9 HWD
    generalize World.setCell _ ⟨w.heap.size + 1 + 1, 5, none⟩ _ = V at HP HB9 HWD ⊢
    intro V9 hG hb
    replace HP := HP.far hb
    replace HB9 := HB9.trans (hb.mono HB9.size)
    replace HWD := HWD.far hb
    clear hG hb
    obtain ⟨⟨k0, k1, k2, k3, k4, k5⟩, _⟩ := HP.six
    go_wp2
    refine bodyPost_ret (v := .agg #[.bool sb, .slice (some ⟨g1, 0, none⟩) l1 p1, .slice (some ⟨g2, 0, none⟩) l2 p2, .bool false, .int .i64 0, .int .i64 0]) (by simp [results, Try.results133, go_sem, k0, k1, k2, k3, k4, k5]) rfl ⟨_, rfl, HWD, HB9⟩end Go.Proofs.Ytmnnpkmjamhmcab
