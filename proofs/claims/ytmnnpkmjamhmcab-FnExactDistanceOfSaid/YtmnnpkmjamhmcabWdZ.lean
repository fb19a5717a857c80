/- WdL, WdS in one text (tools/merge.py). -/
import Derived.Test.YtmnnpkmjamhmcabWdY
import Derived.Test.YtmnnpkmjamhmcabWdA
import Derived.Test.YtmnnpkmjamhmcabFrSumE
namespace Go.Proofs.Ytmnnpkmjamhmcab
open Go.RowKit Go.PlainAid
set_option maxHeartbeats 1600000
set_option maxRecDepth 20000

/-- a value that is the fraction P over Q, in lowest terms -/
def Wq (W : World) (v : Value) (P Q : Int) (e : Nat) : Prop := ∃ (s : Bool) (g1 l1 c1 N g2 l2 c2 D : Nat) (fine : Bool) (fn fd : Int), v = .agg #[.bool s, .slice (some ⟨g1, 0, none⟩) l1 c1, .slice (some ⟨g2, 0, none⟩) l2 c2, .bool fine, .int .i64 fn, .int .i64 fd] ∧ Wc W s g1 l1 c1 N g2 l2 c2 D fine fn fd e ∧ sg s * N * Q = P * D ∧ Nat.Coprime N D
theorem Wq.wd {W : World} {v : Value} {P Q : Int} {e : Nat} (h : Wq W v P Q e) : Wd W v P Q e := by
  obtain ⟨s, g1, l1, c1, N, g2, l2, c2, D, fine, fn, fd, h1, h2, h3, _⟩ := h
  exact ⟨s, g1, l1, c1, N, g2, l2, c2, D, fine, fn, fd, h1, h2, h3⟩
theorem Wq.far {W V : World} {v : Value} {P Q : Int} {e : Nat} (h : Wq W v P Q e) (hb : Below W.heap.size W V) : Wq V v P Q e := by
  obtain ⟨s, g1, l1, c1, N, g2, l2, c2, D, fine, fn, fd, h1, h2, h3, h4⟩ := h
  exact ⟨s, g1, l1, c1, N, g2, l2, c2, D, fine, fn, fd, h1, h2.far hb, h3, h4⟩
theorem Wq.kept6 {W : World} {v : Value} {P Q : Int} {e : Nat} {b : Nat} {x : Bool} (h : Wq W v P Q e) (hb : W.cell? ⟨b, 0, none⟩ = some (.bool x)) (x0 x1 x2 x3 x4 x5 : Value) : Wq (put6 W b x0 x1 x2 x3 x4 x5) v P Q e := by
  obtain ⟨s, g1, l1, c1, N, g2, l2, c2, D, fine, fn, fd, h1, h2, h3, h4⟩ := h
  exact ⟨s, g1, l1, c1, N, g2, l2, c2, D, fine, fn, fd, h1, ⟨h2.1.kept6 hb .., h2.2.1.kept6 hb .., h2.2.2⟩, h3, h4⟩
theorem DL.two (w : World) (x y : Value) (l1 l2 : List Value) (t1 t2 : TypeId) :
    DL ((w.alloc (.cells (x :: l1).toArray t1)).alloc (.cells (y :: l2).toArray t2)) w.heap.size (x :: l1) ∧
    DL ((w.alloc (.cells (x :: l1).toArray t1)).alloc (.cells (y :: l2).toArray t2)) (w.heap.size + 1) (y :: l2) ∧
    Below w.heap.size w ((w.alloc (.cells (x :: l1).toArray t1)).alloc (.cells (y :: l2).toArray t2)) := by
  have a1 := DL.new w (x :: l1) t1
  have b1 := (Below.refl w.heap.size w).alloc (Nat.le_refl _) (.cells (x :: l1).toArray t1)
  have e1 : (w.alloc (.cells (x :: l1).toArray t1)).heap.size = w.heap.size + 1 := by simp
  generalize w.alloc (.cells (x :: l1).toArray t1) = w1 at *
  have a2 := DL.new w1 (y :: l2) t2
  rw [e1] at a2
  exact ⟨a1.alloc _, a2, b1.alloc b1.size _⟩
theorem wlow_any (v1 : Value) (P Q : Int) (e1 : Nat) (w : World) (h1 : Wd w v1 P Q e1) (c1 : e1 ≤ 5000000) :
    Calls Try.prog 130 #[v1] w fun e w' => ∃ v, e = .returned v ∧ Wq w' v P Q e1 ∧ Below w.heap.size w w' := by
  obtain ⟨s1, ga, la, ca, N, gb, lb, cb, D, f1, fn, fd, rfl, hW1, hE1⟩ := h1
  have HW1 := Lib.hid hW1
  have HE1 := Lib.hid hE1
  have hla := hW1.2.2.2.1.len30 (K := 200000) (by omega) hW1.1.2.1
  have hlb := hW1.2.2.2.2.1.len30 (K := 200000) (by omega) hW1.2.1.2.1
  have hD0 := hW1.2.2.1
  clear hW1 hE1
  obtain ⟨A0, A1, B⟩ := DL.two w (.bool s1) (.bool false) [.slice (some ⟨ga, 0, none⟩) la ca, .slice (some ⟨gb, 0, none⟩) lb cb, .bool f1, .int .i64 fn, .int .i64 fd] [.slice none 0 0, .slice none 0 0, .bool false, .int .i64 0, .int .i64 0] 115 115
  go_enter Try.func130, Try.ntmps130
  go_upto_region 1 with fail
  generalize (w.alloc (.cells _ _)).alloc (.cells _ _) = w1 at A0 A1 B ⊢
  obtain ⟨⟨x0, x1, x2, x3, x4, x5⟩, _⟩ := A0.six
  by_cases q1 : f1 = true
  · subst q1
    have HV : Wq w1 (.agg #[.bool s1, .slice (some ⟨ga, 0, none⟩) la ca, .slice (some ⟨gb, 0, none⟩) lb cb, .bool true, .int .i64 fn, .int .i64 fd]) P Q e1 := by
      refine ⟨s1, ga, la, ca, N, gb, lb, cb, D, true, fn, fd, rfl, HW1.out.far B, HE1.out, ?_⟩
      obtain ⟨k1, k2, k3⟩ := HW1.out.2.2.2.2.2 rfl
      have := k1.cop
      rw [k2, k3, Int.natAbs_mul, Int.natAbs_natCast, Int.natAbs_natCast] at this
      have e1 : (sg s1).natAbs = 1 := by cases s1 <;> rfl
      rwa [e1, Nat.one_mul] at this
    obtain ⟨⟨k0, k1, k2, k3, k4, k5⟩, f0, f1', f2', f3, f4, f5⟩ := A1.six
    have HP := A1.put6 (.bool s1) (.slice (some ⟨ga, 0, none⟩) la ca) (.slice (some ⟨gb, 0, none⟩) lb cb) (.bool true) (.int .i64 fn) (.int .i64 fd)
    have HB9 := below_put6 B (show w.heap.size ≤ w.heap.size + 1 by omega) (.bool s1) (.slice (some ⟨ga, 0, none⟩) la ca) (.slice (some ⟨gb, 0, none⟩) lb cb) (.bool true) (.int .i64 fn) (.int .i64 fd)
    have HWD := HV.kept6 k0 (.bool s1) (.slice (some ⟨ga, 0, none⟩) la ca) (.slice (some ⟨gb, 0, none⟩) lb cb) (.bool true) (.int .i64 fn) (.int .i64 fd)
    clear A1 HV B
    unfold put6 at HP HB9 HWD
    go_wp2
    clear k0 k1 k2 k3 k4 k5 f0 f1' f2' f3 f4 f5
    generalize World.setCell _ ⟨w.heap.size + 1, 5, none⟩ _ = V at HP HB9 HWD ⊢
    obtain ⟨⟨k0, k1, k2, k3, k4, k5⟩, _⟩ := HP.six
    refine bodyPost_ret (v := .agg #[.bool s1, .slice (some ⟨ga, 0, none⟩) la ca, .slice (some ⟨gb, 0, none⟩) lb cb, .bool true, .int .i64 fn, .int .i64 fd]) (by simp [results, Try.results130, go_sem, k0, k1, k2, k3, k4, k5]) rfl ⟨_, rfl, HWD, HB9⟩
  · have q3 : f1 = false := by simpa using q1
    subst q3
    have hx1 := HW1.out.far B
    have HX := Lib.hid hx1.1
    have HY := Lib.hid hx1.2.1
    have HA0 := Lib.hid A0
    have HA1 := Lib.hid A1
    have HB := Lib.hid B
    have HSN := Lib.hid hx1.2.2.2.1
    have HSD := Lib.hid hx1.2.2.2.2.1
    clear hx1 A0 A1 B
    go_wp2
    clear x0 x1 x2 x3 x4 x5
    go_loopg [3, 4] D (fun Y xv yv wr => ∃ (X gx lx cx gy ly cy : Nat), xv = .slice (some ⟨gx, 0, none⟩) lx cx ∧ yv = .slice (some ⟨gy, 0, none⟩) ly cy ∧ Hid (Nat.gcd X Y = Nat.gcd N D) ∧ Hid (Sz X e1) ∧ Hid (Sz Y e1) ∧ Hid (Na .i64 1073741824 wr (some ⟨gx, 0, none⟩) lx cx X) ∧ Hid (Na .i64 1073741824 wr (some ⟨gy, 0, none⟩) ly cy Y) ∧ Hid (DL wr w.heap.size [.bool s1, .slice (some ⟨ga, 0, none⟩) la ca, .slice (some ⟨gb, 0, none⟩) lb cb, .bool false, .int .i64 fn, .int .i64 fd]) ∧ Hid (DL wr (w.heap.size + 1) [.bool false, .slice none 0 0, .slice none 0 0, .bool false, .int .i64 0, .int .i64 0]) ∧ Hid (Below w.heap.size w wr))
    case atStart => exact ⟨N, _, _, _, _, _, _, rfl, rfl, rfl, HSN, HSD, HX, HY, HA0, HA1, HB⟩
    case round =>
      obtain ⟨X, gx, lx, cx, gy, ly, cy, rfl, rfl, HG, HSX, HSY, HXr, HYr, HA0r, HA1r, HBr⟩ := hrel
      clear HX HY HA0 HA1 HB
      have hlx := HSX.out.len30 (K := 200000) (by omega) HXr.out.2.1
      have hly := HSY.out.len30 (K := 200000) (by omega) HYr.out.2.1
      rcases Nat.eq_zero_or_pos gk with h0 | h0
      · subst h0
        obtain rfl : ly = 0 := by
          have := HYr.out.pos
          omega
        have HXG : Hid (X = Nat.gcd N D) := by
          have := HG.out
          rwa [Nat.gcd_zero_right] at this
        obtain ⟨e1', e2, e3, e4, e5⟩ := gcd_low (N := N) hD0
        rw [← HXG.out] at e1' e2 e3 e4 e5
        obtain ⟨⟨x0, x1, x2, x3, x4, x5⟩, _⟩ := HA0r.out.six
        have hW := HW1.out.far HBr.out
        clear HG HSY HYr
        go_wp2_with fail
        refine (bsplit_any ga _ _ _ _ _ N X _ hW.1 HXr.out (by omega) (by omega) e1').mono ?_
        rintro e w2 ⟨g1, l1, p1, g2, l2, p2, rfl, hn, _, hb⟩
        clear x0 x1 x2 x3 x4 x5
        have A0 := HA0r.out.far hb
        have A1 := HA1r.out.far hb
        have hX := HXr.out.far hb
        have B := HBr.out.trans (hb.mono HBr.out.size)
        replace hW := hW.far hb
        clear HA0r HA1r HXr HBr hb
        obtain ⟨⟨x0, x1, x2, x3, x4, x5⟩, _⟩ := A0.six
        go_wp2_with fail
        refine (bsplit_any gb _ _ _ _ _ D X _ hW.2.1 hX (by omega) (by omega) e1').mono ?_
        rintro e w3 ⟨g3, l3, p3, g4, l4, p4, rfl, hd', _, hb⟩
        clear x0 x1 x2 x3 x4 x5
        replace A0 := A0.far hb
        replace A1 := A1.far hb
        replace hn := hn.far hb
        replace B := B.trans (hb.mono B.size)
        clear hW hX hb
        have HV : Wq w3 (.agg #[.bool s1, .slice (some ⟨g1, 0, none⟩) l1 p1, .slice (some ⟨g3, 0, none⟩) l3 p3, .bool false, .int .i64 0, .int .i64 0]) P Q e1 := by
          refine ⟨s1, g1, l1, p1, N / X, g3, l3, p3, D / X, false, 0, 0, rfl, ⟨hn, hd', e3, HSN.out.le (Nat.div_le_self _ _), HSD.out.le (Nat.div_le_self _ _), fun h => by cases h⟩, ?_, e2⟩
          have h := HE1.out
          have hX0 : (X : Int) ≠ 0 := by omega
          refine Int.eq_of_mul_eq_mul_right hX0 ?_
          have k1 : (N : Int) = ((N / X : Nat) : Int) * X := by exact_mod_cast e4
          have k2 : (D : Int) = ((D / X : Nat) : Int) * X := by exact_mod_cast e5
          rw [k1, k2] at h
          clear hn hd' e2 e4 e5
          generalize ((N / X : Nat) : Int) = a at *
          generalize ((D / X : Nat) : Int) = b at *
          grind
        obtain ⟨⟨x0, x1, x2, x3, x4, x5⟩, _⟩ := A0.six
        clear hn hd' e2 e3 e4 e5 HXG A0
        obtain ⟨⟨k0, k1, k2, k3, k4, k5⟩, f0, f1', f2', f3, f4, f5⟩ := A1.six
        have HP := A1.put6 (.bool s1) (.slice (some ⟨g1, 0, none⟩) l1 p1) (.slice (some ⟨g3, 0, none⟩) l3 p3) (.bool false) (.int .i64 0) (.int .i64 0)
        have HB9 := below_put6 B (show w.heap.size ≤ w.heap.size + 1 by omega) (.bool s1) (.slice (some ⟨g1, 0, none⟩) l1 p1) (.slice (some ⟨g3, 0, none⟩) l3 p3) (.bool false) (.int .i64 0) (.int .i64 0)
        have HWD := HV.kept6 k0 (.bool s1) (.slice (some ⟨g1, 0, none⟩) l1 p1) (.slice (some ⟨g3, 0, none⟩) l3 p3) (.bool false) (.int .i64 0) (.int .i64 0)
        clear A1 HV B
        unfold put6 at HP HB9 HWD
        go_wp2
        clear k0 k1 k2 k3 k4 k5 f0 f1' f2' f3 f4 f5
        generalize World.setCell _ ⟨w.heap.size + 1, 5, none⟩ _ = V at HP HB9 HWD ⊢
        obtain ⟨⟨k0, k1, k2, k3, k4, k5⟩, _⟩ := HP.six
        refine bodyPost_ret (v := .agg #[.bool s1, .slice (some ⟨g1, 0, none⟩) l1 p1, .slice (some ⟨g3, 0, none⟩) l3 p3, .bool false, .int .i64 0, .int .i64 0]) (by simp [results, Try.results130, go_sem, k0, k1, k2, k3, k4, k5]) rfl ⟨_, rfl, HWD, HB9⟩
      · have hHG2 : Hid (Nat.gcd gk (X % gk) = Nat.gcd N D) := by
          unfold Hid
          rw [← HG.out, Nat.gcd_comm X gk, Nat.gcd_rec gk X, Nat.gcd_comm]
        have hlt := Nat.mod_lt X h0
        have hly0 : 0 < ly := HYr.out.pos.2 h0
        go_wp2_with fail
        refine (bsplit_any gx _ _ _ _ _ X gk _ HXr.out HYr.out (by omega) (by omega) h0).mono ?_
        rintro e w2 ⟨g1, l1, p1, g2, l2, p2, rfl, _, hr, hb⟩
        have HR := Lib.hid hr
        have HY2 := Lib.hid (HYr.out.far hb)
        have HA2 := Lib.hid (HA0r.out.far hb)
        have HA3 := Lib.hid (HA1r.out.far hb)
        have HB2 := Lib.hid (HBr.out.trans (hb.mono HBr.out.size))
        have HS2 : Hid (Sz (X % gk) e1) := HSY.out.le (by omega)
        clear hr hb HXr HYr HA0r HA1r HBr HG HSX
        go_wp2
        go_roundg (X % gk)
        case rel => exact ⟨gk, _, _, _, _, _, _, rfl, rfl, hHG2, HSY, HS2, HY2, HR, HA2, HA3, HB2⟩
        case measure => exact hlt
end Go.Proofs.Ytmnnpkmjamhmcab

namespace Go.Proofs.Ytmnnpkmjamhmcab
open Go.RowKit Go.PlainAid
set_option maxHeartbeats 1600000
set_option maxRecDepth 20000

/-- n values of six cells in block g -/
def WL (W : World) (g n : Nat) (F : Nat → Nat → Value) (p : Nat → Int × Int) (e : Nat) : Prop := ∀ i, i < n → g < W.heap.size ∧ (∀ j, j < 6 → W.cell? ⟨g, i * 6 + j, none⟩ = some (F i j)) ∧ Wd W (.agg #[F i 0, F i 1, F i 2, F i 3, F i 4, F i 5]) (p i).1 (p i).2 e
theorem WL.far {W V : World} {g n : Nat} {F : Nat → Nat → Value} {p : Nat → Int × Int} {e : Nat} (h : WL W g n F p e) (hb : Below W.heap.size W V) : WL V g n F p e := fun i hi => by
  obtain ⟨h1, h2, h3⟩ := h i hi
  exact ⟨Nat.lt_of_lt_of_le h1 hb.size, fun j hj => (hb.cell (p := ⟨g, i * 6 + j, none⟩) h1).trans (h2 j hj), h3.far hb⟩
theorem Na.grown6 {kd : IntKind} {B : Nat} {W V : World} {a : Option Addr} {l c N g : Nat} (h : Na kd B W a l c N) (hg : W.grownBy V (some g)) (hne : ∀ x, W.cell? ⟨g, 0, none⟩ ≠ some (.int kd x)) : Na kd B V a l c N := ⟨h.1, h.2.1, fun j hj => by
  obtain ⟨b, e, hb, hc⟩ := h.2.2 j hj
  obtain ⟨b', e', _, hc'⟩ := h.2.2 0 (by omega)
  rw [e] at e'
  cases e'
  have hbg : b ≠ g := fun e => by subst e; exact hne _ hc'
  exact ⟨b, e, Nat.lt_of_lt_of_le hb hg.size, (World.cell?_of_block (a := ⟨b, j, none⟩) (hg.block b hb (fun e => hbg (Option.some.inj e)))).trans hc⟩⟩
theorem Wd.grown6 {W V : World} {v : Value} {P Q : Int} {e g : Nat} (h : Wd W v P Q e) (hg : W.grownBy V (some g)) (hne : ∀ x, W.cell? ⟨g, 0, none⟩ ≠ some (.int .i64 x)) : Wd V v P Q e := by
  obtain ⟨s, g1, l1, c1, N, g2, l2, c2, D, fine, fn, fd, h1, h2, h3⟩ := h
  exact ⟨s, g1, l1, c1, N, g2, l2, c2, D, fine, fn, fd, h1, ⟨h2.1.grown6 hg hne, h2.2.1.grown6 hg hne, h2.2.2⟩, h3⟩
def flat6 (F : Nat → Nat → Value) (n : Nat) : List Value := (List.range (n * 6)).map fun t => F (t / 6) (t % 6)
theorem flat6_succ (F F' : Nat → Nat → Value) (n : Nat) (h : ∀ i j, i < n → F' i j = F i j) : flat6 F' (n + 1) = flat6 F n ++ [F' n 0, F' n 1, F' n 2, F' n 3, F' n 4, F' n 5] := by
  unfold flat6
  rw [show (n + 1) * 6 = n * 6 + 5 + 1 by omega, List.range_succ, show n * 6 + 5 = n * 6 + 4 + 1 by omega, List.range_succ, show n * 6 + 4 = n * 6 + 3 + 1 by omega, List.range_succ, show n * 6 + 3 = n * 6 + 2 + 1 by omega, List.range_succ, show n * 6 + 2 = n * 6 + 1 + 1 by omega, List.range_succ, List.range_succ]
  simp only [List.map_append, List.map_cons, List.map_nil, List.append_assoc, List.cons_append, List.nil_append]
  congr 1
  · apply List.map_congr_left
    intro t ht
    have := List.mem_range.1 ht
    exact h _ _ (by omega)
  · have e0 : n * 6 / 6 = n ∧ n * 6 % 6 = 0 := by omega
    have e1 : (n * 6 + 1) / 6 = n ∧ (n * 6 + 1) % 6 = 1 := by omega
    have e2 : (n * 6 + 1 + 1) / 6 = n ∧ (n * 6 + 1 + 1) % 6 = 2 := by omega
    have e3 : (n * 6 + 2 + 1) / 6 = n ∧ (n * 6 + 2 + 1) % 6 = 3 := by omega
    have e4 : (n * 6 + 3 + 1) / 6 = n ∧ (n * 6 + 3 + 1) % 6 = 4 := by omega
    have e5 : (n * 6 + 4 + 1) / 6 = n ∧ (n * 6 + 4 + 1) % 6 = 5 := by omega
    rw [e0.1, e0.2, e1.1, e1.2, e2.1, e2.2, e3.1, e3.2, e4.1, e4.2, e5.1, e5.2]
theorem flat6_get (F : Nat → Nat → Value) {n i j : Nat} (hi : i < n) (hj : j < 6) : (flat6 F n)[i * 6 + j]? = some (F i j) := by
  unfold flat6
  rw [List.getElem?_map, List.getElem?_range (by omega)]
  have e1 : (i * 6 + j) / 6 = i := by omega
  have e2 : (i * 6 + j) % 6 = j := by omega
  rw [Option.map_some, e1, e2]
theorem Try.info115 : (Try.prog.info? 115).map (fun i => (i.zero, i.size, i.bytes)) = some (some (.agg #[.bool false, .slice none 0 0, .slice none 0 0, .bool false, .int .i64 0, .int .i64 0]), 6, 80) := by kernel_rfl
theorem six_one {x0 x1 x2 x3 x4 x5 : Value} {W : World} {P Q : Int} {e : Nat} (h : Wd W (.agg #[x0, x1, x2, x3, x4, x5]) P Q e) : ∀ u ∈ [x0, x1, x2, x3, x4, x5], u.oneCell' = true := by
  obtain ⟨s, g1, l1, c1, N, g2, l2, c2, D, fine, fn, fd, h1, h2, h3⟩ := h
  cases h1
  intro u hu
  simp only [List.mem_cons, List.not_mem_nil, or_false] at hu
  rcases hu with rfl | rfl | rfl | rfl | rfl | rfl <;> rfl
theorem zero_any (w : World) : Calls Try.prog 97 #[] w fun e w' => e = .returned (.agg #[.int .i64 0, .int .i64 1]) ∧ Below w.heap.size w w' := by
  have A := D2.new w (.int .i64 0) (.int .i64 0) 27
  obtain ⟨⟨x0, x1⟩, x2, x3⟩ := id A
  clear A
  go_enter Try.func97, Try.ntmps97
  go_wp2
  refine bodyPost_ret (v := .agg #[.int .i64 0, .int .i64 1]) (by simp [results, Try.results97, go_sem]) rfl ⟨rfl, (Below.refl _ w).alloc (Nat.le_refl _) _⟩
theorem wides_any (a : Option Addr) (n cap : Nat) (xs : List (Int × Int)) (w : World) (hx : FIn w a n xs) (hn : n ≤ 64) (hv : ∀ i, i < n → VF (xs.getD i (0, 1)).1 (xs.getD i (0, 1)).2) :
    Calls Try.prog 83 #[.slice a n cap] w fun e w' => ∃ g cp F, e = .returned (.slice (some ⟨g, 0, none⟩) n cp) ∧ WL w' g n F (fun i => xs.getD i (0, 1)) 60 ∧ Below w.heap.size w w' := by
  obtain ⟨i0, hi, hz0, hz1, hz2⟩ := info_parts Try.info115
  have HX := Lib.hid hx
  have HV := Lib.hid hv
  have HO : Hid ((w.alloc (.cells #[] 115)).ownsRow w.heap.size 115 6 (.slice (some ⟨w.heap.size, 0, none⟩) 0 0) 0 (flat6 (fun _ _ => undef) 0)) := ownsRow_empty w 115 6
  have HB0 : Hid (Below w.heap.size w (w.alloc (.cells #[] 115))) := (Below.refl w.heap.size w).alloc (Nat.le_refl _) _
  clear hx hv
  go_enter Try.func83, Try.ntmps83
  go_wp2
  go_loopw [3, 4] (fun v iv wr => ∃ (k g cp : Nat) (F : Nat → Nat → Value), k ≤ n ∧ (k = 0 → cp = 0) ∧ iv = .int .i64 k ∧ v = .slice (some ⟨g, 0, none⟩) k cp ∧ Hid (wr.ownsRow w.heap.size 115 6 (.slice (some ⟨g, 0, none⟩) k cp) k (flat6 F k)) ∧ Hid (∀ i, i < k → Wd wr (.agg #[F i 0, F i 1, F i 2, F i 3, F i 4, F i 5]) (xs.getD i (0, 1)).1 (xs.getD i (0, 1)).2 60) ∧ Hid (Below w.heap.size w wr)) (fun _ iv _ => n - (intOf iv).toNat)
  case atStart => exact ⟨0, _, _, _, Nat.zero_le _, fun _ => rfl, rfl, rfl, HO, fun i hi => absurd hi (by omega), HB0⟩
  case round =>
    obtain ⟨k, g, cp, F, hk, hcp0, rfl, rfl, HR, HW, HB⟩ := hrel
    clear HO HB0
    by_cases hlt : k < n
    · obtain ⟨b', o, x, y, rfl, hxy, c0, c1, hadd⟩ := (HX.out.far HB.out).at hlt
      have hgd : xs.getD k (0, 1) = (x, y) := by rw [List.getD_eq_getElem?_getD, hxy]; rfl
      have hvk := HV.out k hlt
      rw [hgd] at hvk
      go_wp2_with fail
      refine (wideOf_any x y hvk _).mono ?_
      rintro e w1 ⟨v, rfl, hWd, hb⟩
      have HR1 := Lib.hid (own_belowO HR.out hb)
      have HW1 : Hid (∀ i, i < k → Wd w1 (.agg #[F i 0, F i 1, F i 2, F i 3, F i 4, F i 5]) (xs.getD i (0, 1)).1 (xs.getD i (0, 1)).2 60) := fun i hi => (HW.out i hi).far hb
      have HB1 := Lib.hid (HB.out.trans (hb.mono HB.out.size))
      have hge := own_block HR.out g rfl
      have hz := HB1.out.size
      clear HR HW HB hb c0 c1
      have HWd := Lib.hid hWd
      obtain ⟨s, g1, l1, c1, N, g2, l2, c2, D, fine, fn, fd, rfl, _⟩ := hWd
      have h1c := six_one HWd.out
      have HC : Hid (∀ j u, ([.bool s, .slice (some ⟨g1, 0, none⟩) l1 c1, .slice (some ⟨g2, 0, none⟩) l2 c2, .bool fine, .int .i64 fn, .int .i64 fd] : List Value)[j]? = some u → (w1.alloc (.cells #[.bool s, .slice (some ⟨g1, 0, none⟩) l1 c1, .slice (some ⟨g2, 0, none⟩) l2 c2, .bool fine, .int .i64 fn, .int .i64 fd] 115)).cell? ((⟨w1.heap.size, 0, none⟩ : Addr).add j) = some u) := fun j u hj => by
        have := (DL.new w1 [.bool s, .slice (some ⟨g1, 0, none⟩) l1 c1, .slice (some ⟨g2, 0, none⟩) l2 c2, .bool fine, .int .i64 fn, .int .i64 fd] 115).1 j u hj
        rcases j with _ | j <;> simpa [Addr.add] using this
      go_wp2_with (at_builtin; refine wpList_append_own _ rfl _ _ 117 rfl w.heap.size 115 i0 (.agg #[.bool false, .slice none 0 0, .slice none 0 0, .bool false, .int .i64 0, .int .i64 0]) 6 80 Try.underlying117 hi hz0 hz1 hz2 rfl (by decide) _ _ _ rfl (World.ownsRow.alloc HR1.out _) ⟨w1.heap.size, 0, none⟩ 1 1 [.bool s, .slice (some ⟨g1, 0, none⟩) l1 c1, .slice (some ⟨g2, 0, none⟩) l2 c2, .bool fine, .int .i64 fn, .int .i64 fd] rfl rfl HC.out h1c (by unfold maxLen; omega) (by omega) (by first | (simp; done) | (simp; omega)) ?_; intro v1 w2 hown1 hgrow _)
      obtain ⟨g3, cp3, rfl, hg3⟩ := own_shape hown1 (by omega)
      have HB2 : Hid (Below w.heap.size w w2) := ((HB1.out.alloc hz _).grown hgrow (by simp; omega) (fun q e => own_block HR1.out q e))
      have hbA : Below w1.heap.size w1 (w1.alloc (.cells #[.bool s, .slice (some ⟨g1, 0, none⟩) l1 c1, .slice (some ⟨g2, 0, none⟩) l2 c2, .bool fine, .int .i64 fn, .int .i64 fd] 115)) := (Below.refl w1.heap.size w1).alloc (Nat.le_refl _) _
      have hne : ∀ x, (w1.alloc (.cells #[.bool s, .slice (some ⟨g1, 0, none⟩) l1 c1, .slice (some ⟨g2, 0, none⟩) l2 c2, .bool fine, .int .i64 fn, .int .i64 fd] 115)).cell? ⟨g, 0, none⟩ ≠ some (.int .i64 x) := fun x hc => by
        have hRA := World.ownsRow.alloc HR1.out (.cells #[.bool s, .slice (some ⟨g1, 0, none⟩) l1 c1, .slice (some ⟨g2, 0, none⟩) l2 c2, .bool fine, .int .i64 fn, .int .i64 fd] 115)
        rcases Nat.eq_zero_or_pos k with h0 | h0
        · obtain ⟨_, ⟨h, _⟩ | ⟨g', cap', cur, hv, hg, hh, q1, q2, q3, q4⟩⟩ := hRA
          · cases h
          · cases hv
            rw [hcp0 h0] at q3
            have e0 : cur = #[] := Array.eq_empty_of_size_eq_zero (by omega)
            subst e0
            simp [World.cell?, hh] at hc
        · have h1 := World.ownsRow.cellAt hRA (0 * 6 + 0) (by omega)
          rw [flat6_get F h0 (by omega)] at h1
          have h2 := h1.symm.trans hc
          obtain ⟨s', _, _, _, _, _, _, _, _, _, _, _, h3, _⟩ := HW1.out 0 h0
          have h4 : F 0 0 = .bool s' := by
            have := congrArg (fun v => match v with | .agg c => c[0]? | _ => none) h3
            simpa using this
          rw [h4] at h2
          cases h2
      have hG : ∀ {v : Value} {P Q : Int} {e : Nat}, Wd w1 v P Q e → Wd w2 v P Q e := fun h => (h.far hbA).grown6 hgrow hne
      have HR2 : Hid (w2.ownsRow w.heap.size 115 6 (.slice (some ⟨g3, 0, none⟩) (k + 1) cp3) (k + 1) (flat6 (fun i j => if i = k then ([.bool s, .slice (some ⟨g1, 0, none⟩) l1 c1, .slice (some ⟨g2, 0, none⟩) l2 c2, .bool fine, .int .i64 fn, .int .i64 fd] : List Value).getD j undef else F i j) (k + 1))) := by
        unfold Hid
        rw [flat6_succ F _ k (fun i j hi => if_neg (by omega))]
        simpa using hown1
      have HW2 : Hid (∀ i, i < k + 1 → Wd w2 (.agg #[(fun i j => if i = k then ([.bool s, .slice (some ⟨g1, 0, none⟩) l1 c1, .slice (some ⟨g2, 0, none⟩) l2 c2, .bool fine, .int .i64 fn, .int .i64 fd] : List Value).getD j undef else F i j) i 0, (fun i j => if i = k then ([.bool s, .slice (some ⟨g1, 0, none⟩) l1 c1, .slice (some ⟨g2, 0, none⟩) l2 c2, .bool fine, .int .i64 fn, .int .i64 fd] : List Value).getD j undef else F i j) i 1, (fun i j => if i = k then ([.bool s, .slice (some ⟨g1, 0, none⟩) l1 c1, .slice (some ⟨g2, 0, none⟩) l2 c2, .bool fine, .int .i64 fn, .int .i64 fd] : List Value).getD j undef else F i j) i 2, (fun i j => if i = k then ([.bool s, .slice (some ⟨g1, 0, none⟩) l1 c1, .slice (some ⟨g2, 0, none⟩) l2 c2, .bool fine, .int .i64 fn, .int .i64 fd] : List Value).getD j undef else F i j) i 3, (fun i j => if i = k then ([.bool s, .slice (some ⟨g1, 0, none⟩) l1 c1, .slice (some ⟨g2, 0, none⟩) l2 c2, .bool fine, .int .i64 fn, .int .i64 fd] : List Value).getD j undef else F i j) i 4, (fun i j => if i = k then ([.bool s, .slice (some ⟨g1, 0, none⟩) l1 c1, .slice (some ⟨g2, 0, none⟩) l2 c2, .bool fine, .int .i64 fn, .int .i64 fd] : List Value).getD j undef else F i j) i 5]) (xs.getD i (0, 1)).1 (xs.getD i (0, 1)).2 60) := fun i hi => by
        by_cases e : i = k
        · subst e
          rw [hgd]
          simpa using hG HWd.out
        · simpa [e] using hG (HW1.out i (by omega))
      clear hown1 hgrow HR1 HW1 HB1 HWd HC h1c hG hne hbA
      go_wp2
      go_roundw
      case rel => exact ⟨k + 1, g3, cp3, _, hlt, fun h => by omega, by go_num, by first | rfl | go_num, HR2, HW2, HB2⟩
      case measure => simp [intOf]; omega
    · obtain rfl : k = n := by omega
      have HL : Hid (WL wr g k F (fun i => xs.getD i (0, 1)) 60) := fun i hi => by
        have hlt2 : g < wr.heap.size := by
          obtain ⟨_, ⟨h, _⟩ | ⟨g', cap', cur, hv, hg, hh, _⟩⟩ := HR.out
          · cases h
          · cases hv
            exact (Array.getElem?_eq_some_iff.1 hh).1
        refine ⟨hlt2, fun j hj => ?_, HW.out i hi⟩
        have := World.ownsRow.cellAt HR.out (i * 6 + j) (by omega)
        rw [this, flat6_get F hi hj]
      clear HR HW
      go_wp2
      go_ret
      exact ⟨g, cp, F, rfl, HL.out, HB.out⟩
/-- the sum of the first n fractions -/
def rats (p : Nat → Int × Int) : Nat → Int × Int
  | 0 => (0, 1)
  | k + 1 => ((rats p k).1 * (p k).2 + (p k).1 * (rats p k).2, (rats p k).2 * (p k).2)
theorem rats_ne {p : Nat → Int × Int} {k : Nat} (h : ∀ i, i < k → (p i).2 ≠ 0) : (rats p k).2 ≠ 0 := by
  induction k with
  | zero => show (1 : Int) ≠ 0; decide
  | succ k ih => exact Int.mul_ne_zero (ih fun i hi => h i (by omega)) (h k (by omega))
theorem wsum_any (g n cap : Nat) (F : Nat → Nat → Value) (p : Nat → Int × Int) (e : Nat) (w : World) (h : WL w g n F p e) (hn : n ≤ 64) (he : 60 ≤ e) (he2 : e ≤ 50000) (hq : ∀ i, i < n → (p i).2 ≠ 0) :
    Calls Try.prog 129 #[.slice (some ⟨g, 0, none⟩) n cap] w fun x w' => ∃ v, x = .returned v ∧ Wd w' v (rats p n).1 (rats p n).2 (60 + n * (e + 1)) ∧ Below w.heap.size w w' := by
  have hmx : Try.prog.follows .mixedOrders = true := by kernel_rfl
  have HL := Lib.hid h
  have HQ := Lib.hid hq
  have A := DL.new w [.bool false, .slice none 0 0, .slice none 0 0, .bool false, .int .i64 0, .int .i64 0] 115
  have B := (Below.refl w.heap.size w).alloc (Nat.le_refl _) (.cells [.bool false, .slice none 0 0, .slice none 0 0, .bool false, .int .i64 0, .int .i64 0].toArray 115)
  have hV1 : VF 0 1 := ⟨by decide, by decide, by decide, by decide, by decide⟩
  clear h hq
  go_enter Try.func129, Try.ntmps129
  go_wp2_with fail
  refine (zero_any _).mono ?_
  rintro x w1 ⟨rfl, hb⟩
  replace A := A.far hb
  replace B := B.trans (hb.mono B.size)
  clear hb
  go_wp2_with fail
  refine (wideOf_any 0 1 hV1 _).mono ?_
  rintro x w2 ⟨v, rfl, hWd, hb⟩
  replace A := A.far hb
  replace B := B.trans (hb.mono B.size)
  clear hb
  have HWd := Lib.hid hWd
  obtain ⟨s, g1, l1, c1, N, g2, l2, c2, D, fine, fn, fd, rfl, _⟩ := hWd
  have A3 := DL.new w2 [.bool s, .slice (some ⟨g1, 0, none⟩) l1 c1, .slice (some ⟨g2, 0, none⟩) l2 c2, .bool fine, .int .i64 fn, .int .i64 fd] 115
  have hlt := A.lt
  have hbn : Below w2.heap.size w2 (w2.alloc (.cells [.bool s, .slice (some ⟨g1, 0, none⟩) l1 c1, .slice (some ⟨g2, 0, none⟩) l2 c2, .bool fine, .int .i64 fn, .int .i64 fd].toArray 115)) := (Below.refl _ w2).alloc (Nat.le_refl _) _
  replace A := A.far hbn
  have hbz := B.size
  replace B := B.trans (hbn.mono B.size)
  replace HWd := Lib.hid (HWd.out.far hbn)
  clear hbn
  go_wp2
  generalize w2.alloc (.cells _ _) = w3 at A B HWd A3 ⊢
  have hbz2 : w.heap.size ≤ w2.heap.size := hbz
  generalize w2.heap.size = b3 at A3 hlt hbz2 ⊢
  clear hbz
  have HA := Lib.hid A
  have HA3 := Lib.hid A3
  have HB := Lib.hid B
  clear A A3 B
  go_loopw [4] (fun iv wr => ∃ (k : Nat) (s : Bool) (g1 l1 c1 g2 l2 c2 : Nat) (fine : Bool) (fn fd : Int), k ≤ n ∧ iv = .int .i64 k ∧ Hid (DL wr b3 [.bool s, .slice (some ⟨g1, 0, none⟩) l1 c1, .slice (some ⟨g2, 0, none⟩) l2 c2, .bool fine, .int .i64 fn, .int .i64 fd]) ∧ Hid (Wd wr (.agg #[.bool s, .slice (some ⟨g1, 0, none⟩) l1 c1, .slice (some ⟨g2, 0, none⟩) l2 c2, .bool fine, .int .i64 fn, .int .i64 fd]) (rats p k).1 (rats p k).2 (60 + k * (e + 1))) ∧ Hid (DL wr w.heap.size [.bool false, .slice none 0 0, .slice none 0 0, .bool false, .int .i64 0, .int .i64 0]) ∧ Hid (Below w.heap.size w wr)) (fun iv _ => n - (intOf iv).toNat)
  case atStart => exact ⟨0, s, g1, l1, c1, g2, l2, c2, fine, fn, fd, Nat.zero_le _, rfl, HA3, HWd.out.up (by omega), HA, HB⟩
  case round =>
    clear HA3 HWd HA HB
    obtain ⟨k, s, g1, l1, c1, g2, l2, c2, fine, fn, fd, hk, rfl, HA3, HWd, HA, HB⟩ := hrel
    by_cases hlt2 : k < n
    · obtain ⟨hg, hc, hEl⟩ := (HL.out.far HB.out) k hlt2
      have m0 : wr.cell? ⟨g, k * 6, none⟩ = some (F k 0) := hc 0 (by omega)
      have m1 := hc 1 (by omega)
      have m2 := hc 2 (by omega)
      have m3 := hc 3 (by omega)
      have m4 := hc 4 (by omega)
      have m5 := hc 5 (by omega)
      obtain ⟨⟨n0, n1, n2, n3, n4, n5⟩, _⟩ := HA3.out.six
      have HEl := Lib.hid hEl
      have HQk := Lib.hid (rats_ne (p := p) (k := k) fun i hi => HQ.out i (by omega))
      have HQp := Lib.hid (HQ.out k hlt2)
      have hek : k * (e + 1) ≤ 64 * 50001 := Nat.mul_le_mul (by omega) (by omega)
      obtain ⟨ek, hek2⟩ : ∃ ek, 60 + k * (e + 1) = ek := ⟨_, rfl⟩
      have hek3 : ek + e + 1 = 60 + (k + 1) * (e + 1) := by rw [← hek2, Nat.add_mul]; omega
      rw [hek2] at HWd
      have hek4 : 60 ≤ ek := by omega
      have hek5 : ek ≤ 4000000 := by omega
      have HE3 := Lib.hid hek3
      clear hc hEl hek hek2 hek3
      generalize F k 0 = y0 at m0 HEl
      generalize F k 1 = y1 at m1 HEl
      generalize F k 2 = y2 at m2 HEl
      generalize F k 3 = y3 at m3 HEl
      generalize F k 4 = y4 at m4 HEl
      generalize F k 5 = y5 at m5 HEl
      go_upto_region 5 with fail
      have t0 : ∀ q : GT wr, q.w.cell? ⟨g, k * 6, none⟩ = some y0 := gt_cell m0
      have t1 : ∀ q : GT wr, q.w.cell? ⟨g, k * 6 + 1, none⟩ = some y1 := gt_cell m1
      have t2 : ∀ q : GT wr, q.w.cell? ⟨g, k * 6 + 2, none⟩ = some y2 := gt_cell m2
      have t3 : ∀ q : GT wr, q.w.cell? ⟨g, k * 6 + 3, none⟩ = some y3 := gt_cell m3
      have t4 : ∀ q : GT wr, q.w.cell? ⟨g, k * 6 + 4, none⟩ = some y4 := gt_cell m4
      have t5 : ∀ q : GT wr, q.w.cell? ⟨g, k * 6 + 5, none⟩ = some y5 := gt_cell m5
      have r0 : ∀ q : GT wr, q.w.cell? ⟨b3, 0, none⟩ = some (.bool s) := gt_cell n0
      have r1 : ∀ q : GT wr, q.w.cell? ⟨b3, 1, none⟩ = some (.slice (some ⟨g1, 0, none⟩) l1 c1) := gt_cell n1
      have r2 : ∀ q : GT wr, q.w.cell? ⟨b3, 2, none⟩ = some (.slice (some ⟨g2, 0, none⟩) l2 c2) := gt_cell n2
      have r3 : ∀ q : GT wr, q.w.cell? ⟨b3, 3, none⟩ = some (.bool fine) := gt_cell n3
      have r4 : ∀ q : GT wr, q.w.cell? ⟨b3, 4, none⟩ = some (.int .i64 fn) := gt_cell n4
      have r5 : ∀ q : GT wr, q.w.cell? ⟨b3, 5, none⟩ = some (.int .i64 fd) := gt_cell n5
      clear m0 m1 m2 m3 m4 m5 n0 n1 n2 n3 n4 n5
      refine wp_region_quiet_tail (C := fun w' => ∃ q : GT wr, w' = q.w) 5 hmx (by kernel_rfl) ⟨⟨wr.drew, (Below.refl _ _).drew⟩, rfl⟩ ?_
      simp only [List.take_succ_cons, List.take_zero, List.drop_succ_cons, List.drop_zero]
      repeat (quiet_step (fail))
      refine wpQuiet_nil ?_
      rintro V ⟨⟨_, hV⟩, rfl⟩
      clear t0 t1 t2 t3 t4 t5 r0 r1 r2 r3 r4 r5
      have hA3 := HA3.out.far hV
      have hA := HA.out.far hV
      have hB := HB.out.trans (hV.mono HB.out.size)
      have hW1 := HWd.out.far hV
      have hE1 := HEl.out.far hV
      clear HA3 HA HB HWd HEl hV
      go_wp2_with fail
      refine (wadd_any _ _ _ _ _ _ ek e _ hW1 hE1 hek4 he (by omega) (by omega) HQk.out HQp.out).mono ?_
      rintro x V1 ⟨va, rfl, ha, hb⟩
      replace hA3 := hA3.far hb
      replace hA := hA.far hb
      replace hB := hB.trans (hb.mono hB.size)
      clear hb hW1 hE1
      go_wp2_with fail
      refine (wlow_any _ _ _ _ _ ha (by omega)).mono ?_
      rintro x V2 ⟨vb, rfl, hb', hb⟩
      replace hA3 := hA3.far hb
      replace hA := hA.far hb
      replace hB := hB.trans (hb.mono hB.size)
      clear hb ha
      have hW2 := hb'.wd
      clear hb'
      obtain ⟨s', g1', l1', c1', N', g2', l2', c2', D', fine', fn', fd', rfl, _⟩ := id hW2
      obtain ⟨⟨k0, k1, k2, k3, k4, k5⟩, f0, f1, f2, f3, f4, f5⟩ := hA3.six
      have HP := Lib.hid (hA3.put6 (.bool s') (.slice (some ⟨g1', 0, none⟩) l1' c1') (.slice (some ⟨g2', 0, none⟩) l2' c2') (.bool fine') (.int .i64 fn') (.int .i64 fd'))
      have HB9 := Lib.hid (below_put6 hB hbz2 (.bool s') (.slice (some ⟨g1', 0, none⟩) l1' c1') (.slice (some ⟨g2', 0, none⟩) l2' c2') (.bool fine') (.int .i64 fn') (.int .i64 fd'))
      have HWD := Lib.hid (hW2.kept6 k0 (.bool s') (.slice (some ⟨g1', 0, none⟩) l1' c1') (.slice (some ⟨g2', 0, none⟩) l2' c2') (.bool fine') (.int .i64 fn') (.int .i64 fd'))
      have HA9 : Hid (DL (put6 V2 b3 (.bool s') (.slice (some ⟨g1', 0, none⟩) l1' c1') (.slice (some ⟨g2', 0, none⟩) l2' c2') (.bool fine') (.int .i64 fn') (.int .i64 fd')) w.heap.size [.bool false, .slice none 0 0, .slice none 0 0, .bool false, .int .i64 0, .int .i64 0]) := (((((hA.other (by omega) 0 _).other (by omega) 1 _).other (by omega) 2 _).other (by omega) 3 _).other (by omega) 4 _).other (by omega) 5 _
      rw [HE3.out] at HWD
      clear hA3 hA hB hW2 HE3
      unfold put6 at HP HB9 HWD HA9
      go_wp2
      clear k0 k1 k2 k3 k4 k5 f0 f1 f2 f3 f4 f5
      generalize World.setCell _ ⟨b3, 5, none⟩ _ = V3 at HP HB9 HWD HA9 ⊢
      go_roundw
      case rel => exact ⟨k + 1, s', g1', l1', c1', g2', l2', c2', fine', fn', fd', hlt2, by go_num, HP, HWD, HA9, HB9⟩
      case measure => simp [intOf]; omega
    · obtain rfl : k = n := by omega
      obtain ⟨⟨n0, n1, n2, n3, n4, n5⟩, _⟩ := HA3.out.six
      obtain ⟨⟨k0, k1, k2, k3, k4, k5⟩, f0, f1, f2, f3, f4, f5⟩ := HA.out.six
      have HP := HA.out.put6 (.bool s) (.slice (some ⟨g1, 0, none⟩) l1 c1) (.slice (some ⟨g2, 0, none⟩) l2 c2) (.bool fine) (.int .i64 fn) (.int .i64 fd)
      have HB9 := below_put6 HB.out (Nat.le_refl _) (.bool s) (.slice (some ⟨g1, 0, none⟩) l1 c1) (.slice (some ⟨g2, 0, none⟩) l2 c2) (.bool fine) (.int .i64 fn) (.int .i64 fd)
      have HWD := HWd.out.kept6 k0 (.bool s) (.slice (some ⟨g1, 0, none⟩) l1 c1) (.slice (some ⟨g2, 0, none⟩) l2 c2) (.bool fine) (.int .i64 fn) (.int .i64 fd)
      clear HA HB HWd HA3
      unfold put6 at HP HB9 HWD
      go_wp2
      clear k0 k1 k2 k3 k4 k5 f0 f1 f2 f3 f4 f5 n0 n1 n2 n3 n4 n5
      generalize World.setCell _ ⟨w.heap.size, 5, none⟩ _ = V at HP HB9 HWD ⊢
      obtain ⟨⟨k0, k1, k2, k3, k4, k5⟩, _⟩ := HP.six
      refine bodyPost_ret (v := .agg #[.bool s, .slice (some ⟨g1, 0, none⟩) l1 c1, .slice (some ⟨g2, 0, none⟩) l2 c2, .bool fine, .int .i64 fn, .int .i64 fd]) (by simp [results, Try.results129, go_sem, k0, k1, k2, k3, k4, k5]) rfl ⟨_, rfl, HWD, HB9⟩
end Go.Proofs.Ytmnnpkmjamhmcab
