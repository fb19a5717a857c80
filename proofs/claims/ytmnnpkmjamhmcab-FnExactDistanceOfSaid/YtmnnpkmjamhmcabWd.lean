/- Fractions of any size in the model: what a value of spec.l05Wide tells; spec.l05WideOf. -/
import Derived.Test.YtmnnpkmjamhmcabNvX
import Derived.Test.YtmnnpkmjamhmcabDL
import Derived.Test.YtmnnpkmjamhmcabFAdd
namespace Go.Proofs.Ytmnnpkmjamhmcab
open Go.RowKit Go.PlainAid
set_option maxHeartbeats 800000
set_option maxRecDepth 20000

def sg (s : Bool) : Int := if s then -1 else 1
/-- the parts of a fraction of any size -/
def Wc (W : World) (s : Bool) (g1 l1 c1 N g2 l2 c2 D : Nat) (fine : Bool) (fn fd : Int) (e : Nat) : Prop :=
  Na .i64 1073741824 W (some ⟨g1, 0, none⟩) l1 c1 N ∧ Na .i64 1073741824 W (some ⟨g2, 0, none⟩) l2 c2 D ∧ 0 < D ∧ Sz N e ∧ Sz D e ∧ (fine = true → VF fn fd ∧ fn = sg s * N ∧ fd = D)
theorem Wc.far {W V : World} {s : Bool} {g1 l1 c1 N g2 l2 c2 D : Nat} {fine : Bool} {fn fd : Int} {e : Nat} (h : Wc W s g1 l1 c1 N g2 l2 c2 D fine fn fd e) (hb : Below W.heap.size W V) : Wc V s g1 l1 c1 N g2 l2 c2 D fine fn fd e := ⟨h.1.far hb, h.2.1.far hb, h.2.2⟩
theorem Wc.up {W : World} {s : Bool} {g1 l1 c1 N g2 l2 c2 D : Nat} {fine : Bool} {fn fd : Int} {e f : Nat} (h : Wc W s g1 l1 c1 N g2 l2 c2 D fine fn fd e) (hf : e ≤ f) : Wc W s g1 l1 c1 N g2 l2 c2 D fine fn fd f := ⟨h.1, h.2.1, h.2.2.1, h.2.2.2.1.up hf, h.2.2.2.2.1.up hf, h.2.2.2.2.2⟩
/-- a value that is the fraction P over Q -/
def Wd (W : World) (v : Value) (P Q : Int) (e : Nat) : Prop := ∃ (s : Bool) (g1 l1 c1 N g2 l2 c2 D : Nat) (fine : Bool) (fn fd : Int), v = .agg #[.bool s, .slice (some ⟨g1, 0, none⟩) l1 c1, .slice (some ⟨g2, 0, none⟩) l2 c2, .bool fine, .int .i64 fn, .int .i64 fd] ∧ Wc W s g1 l1 c1 N g2 l2 c2 D fine fn fd e ∧ sg s * N * Q = P * D
theorem Wd.far {W V : World} {v : Value} {P Q : Int} {e : Nat} (h : Wd W v P Q e) (hb : Below W.heap.size W V) : Wd V v P Q e := by
  obtain ⟨s, g1, l1, c1, N, g2, l2, c2, D, fine, fn, fd, h1, h2, h3⟩ := h
  exact ⟨s, g1, l1, c1, N, g2, l2, c2, D, fine, fn, fd, h1, h2.far hb, h3⟩
theorem Wd.up {W : World} {v : Value} {P Q : Int} {e f : Nat} (h : Wd W v P Q e) (hf : e ≤ f) : Wd W v P Q f := by
  obtain ⟨s, g1, l1, c1, N, g2, l2, c2, D, fine, fn, fd, h1, h2, h3⟩ := h
  exact ⟨s, g1, l1, c1, N, g2, l2, c2, D, fine, fn, fd, h1, h2.up hf, h3⟩
theorem sg_abs (n : Int) : sg (decide (n < 0)) * (n.natAbs : Nat) = n := by
  unfold sg
  by_cases h : n < 0
  · simp [h]; omega
  · simp [h]; omega
theorem VF.sz {n d : Int} (h : VF n d) : Sz n.natAbs 60 ∧ Sz d.natAbs 60 := by
  have e : (1152921504606846976 : Nat) = 2 ^ 60 := by decide
  unfold Sz
  rw [← e]
  have h1 := h.1; have h2 := h.2.1; have h3 := h.2.2.1; have h4 := h.2.2.2.1
  omega
theorem Na.kept6 {kd : IntKind} {B : Nat} {W : World} {a : Option Addr} {l c N b : Nat} {x : Bool} (h : Na kd B W a l c N) (hb : W.cell? ⟨b, 0, none⟩ = some (.bool x)) (x0 x1 x2 x3 x4 x5 : Value) : Na kd B (put6 W b x0 x1 x2 x3 x4 x5) a l c N := ⟨h.1, h.2.1, fun j hj => by
  obtain ⟨g, e, hg, hc⟩ := h.2.2 j hj
  obtain ⟨g', e', _, hc'⟩ := h.2.2 0 (by omega)
  rw [e] at e'
  cases e'
  have hne : b ≠ g := fun e => by subst e; rw [hb] at hc'; cases hc'
  refine ⟨g, e, by simpa [put6, World.setCell] using hg, ?_⟩
  unfold put6
  rw [cell_otherD (addr_neD (.inr hne)), cell_otherD (addr_neD (.inr hne)), cell_otherD (addr_neD (.inr hne)), cell_otherD (addr_neD (.inr hne)), cell_otherD (addr_neD (.inr hne)), cell_otherD (addr_neD (.inr hne))]
  exact hc⟩
theorem wideOf_any (n d : Int) (h : VF n d) (w : World) :
    Calls Try.prog 96 #[.agg #[.int .i64 n, .int .i64 d]] w fun e w' => ∃ v, e = .returned v ∧ Wd w' v n d 60 ∧ Below w.heap.size w w' := by
  obtain ⟨⟨h1, h2, h3, h4⟩, h5⟩ := h.out
  have HM1 : Hid (∀ W : World, Calls Try.prog 65 #[.int .i64 n, .int .i64 (-n)] W fun e w' => e = .returned (.int .i64 (n.natAbs : Nat)) ∧ Below W.heap.size W w') := fun W => (l00Max_abs n W (by omega) (by omega)).mono fun _ _ ⟨h1, h2⟩ => ⟨h1, by rw [← h2]; exact Below.refl _ _⟩
  have HZ := Lib.hid h
  obtain ⟨D, rfl⟩ : ∃ D : Nat, d = D := ⟨d.toNat, by omega⟩
  have A0 := D2.new w (.int .i64 n) (.int .i64 D) 27
  have B0 : Below w.heap.size w (w.alloc (.cells #[.int .i64 n, .int .i64 D] 27)) := (Below.refl _ w).alloc (Nat.le_refl _) _
  have A1 := DL.new (w.alloc (.cells #[.int .i64 n, .int .i64 D] 27)) [.bool false, .slice none 0 0, .slice none 0 0, .bool false, .int .i64 0, .int .i64 0] 115
  have B1 := B0.alloc B0.size (.cells [.bool false, .slice none 0 0, .slice none 0 0, .bool false, .int .i64 0, .int .i64 0].toArray 115)
  replace A0 := A0.alloc (.cells [.bool false, .slice none 0 0, .slice none 0 0, .bool false, .int .i64 0, .int .i64 0].toArray 115)
  have e1 : (w.alloc (.cells #[.int .i64 n, .int .i64 D] 27)).heap.size = w.heap.size + 1 := by simp
  rw [e1] at A1
  clear h h5 e1 B0
  have hd : decide (n < 0) = decide (n < 0) := rfl
  obtain ⟨s, hs⟩ : ∃ s, decide (n < 0) = s := ⟨_, rfl⟩
  go_enter Try.func96, Try.ntmps96
  go_wp2
  generalize (w.alloc (.cells #[.int .i64 n, .int .i64 D] 27)).alloc (.cells _ _) = w1 at A0 A1 B1 ⊢
  obtain ⟨q0, q1⟩ := (show D2 w1.drew w.heap.size _ _ from A0).gr (rw := some (w.heap.size + 1)) (fun e => by have := Option.some.inj e; omega)
  have HA1 := Lib.hid A1
  have HB1 := Lib.hid B1
  clear A0 A1 B1 hd
  have hneg : IntKind.i64.wrap (-n) = -n := by rw [IntKind.wrap_i64]; omega
  refine wp_region_mix (some (w.heap.size + 1)) [0, 1, 2, 3, 4, 5, 6, 7, 8, 10, 11, 13] [9, 12, 14, 15] (by kernel_rfl) (by kernel_rfl) ?_
  simp only [pickOps, List.filterMap_cons, List.filterMap_nil, List.getElem?_toArray, List.getElem?_cons_succ, List.getElem?_cons_zero]
  repeat (refine wpQuietG_step (fun K hK => ?_); go_simp; first | (refine hK _ ?_; clear hK K) | (apply Exists.intro; refine ⟨fun _ => ?_, hK _ ?_⟩; (first | (with_reducible exact HM1.out _)); clear hK K))
  refine wpQuietG_nil ?_
  clear q0 q1 hneg
  intro W hW1 hW2
  replace HA1 := Lib.hid (HA1.out.far (of_drew hW2))
  replace HB1 := Lib.hid (HB1.out.trans ((of_drew hW2).mono HB1.out.size))
  clear hW2
  go_wp2_with fail
  refine (bigOf_any n.natAbs W (by omega)).mono ?_
  rintro e W2 ⟨g1, l1, c1, rfl, hN, hb⟩
  replace HA1 := Lib.hid (HA1.out.far hb)
  replace HB1 := Lib.hid (HB1.out.trans (hb.mono HB1.out.size))
  have HN := Lib.hid hN
  replace hW1 := gr_step hW1 hb
  clear hb hN
  go_wp2
  try refine ⟨hW1, ?_⟩
  clear hW1
  intro W3 hW1 hW2
  replace HA1 := Lib.hid (HA1.out.far hW2)
  replace HB1 := Lib.hid (HB1.out.trans (hW2.mono HB1.out.size))
  replace HN := Lib.hid (HN.out.far hW2)
  clear hW2
  go_wp2_with fail
  refine (bigOf_any D W3 (by omega)).mono ?_
  rintro e W4 ⟨g2, l2, c2, rfl, hN, hb⟩
  replace HA1 := Lib.hid (HA1.out.far hb)
  replace HB1 := Lib.hid (HB1.out.trans (hb.mono HB1.out.size))
  replace HN := Lib.hid (HN.out.far hb)
  have HD := Lib.hid hN
  replace hW1 := gr_step hW1 hb
  clear hb hN
  go_wp2
  try refine ⟨hW1, ?_⟩
  clear hW1
  intro W5 hW1 hW2
  replace HA1 := Lib.hid (HA1.out.far hW2)
  replace HB1 := Lib.hid (HB1.out.trans (hW2.mono HB1.out.size))
  replace HN := Lib.hid (HN.out.far hW2)
  replace HD := Lib.hid (HD.out.far hW2)
  clear hW2
  go_wp2
  try refine ⟨hW1, ?_⟩
  clear hW1
  intro W6 hW1 hW2
  replace HA1 := Lib.hid (HA1.out.far hW2)
  replace HB1 := Lib.hid (HB1.out.trans (hW2.mono HB1.out.size))
  replace HN := Lib.hid (HN.out.far hW2)
  replace HD := Lib.hid (HD.out.far hW2)
  clear hW2
  obtain ⟨⟨k0, k1, k2, k3, k4, k5⟩, f0, f1, f2, f3, f4, f5⟩ := HA1.out.six
  have HP := HA1.out.put6 (.bool s) (.slice (some ⟨g1, 0, none⟩) l1 c1) (.slice (some ⟨g2, 0, none⟩) l2 c2) (.bool true) (.int .i64 n) (.int .i64 D)
  have HB2 := below_put6 HB1.out (show w.heap.size ≤ w.heap.size + 1 by omega) (.bool s) (.slice (some ⟨g1, 0, none⟩) l1 c1) (.slice (some ⟨g2, 0, none⟩) l2 c2) (.bool true) (.int .i64 n) (.int .i64 D)
  have hG := gr_put6 hW1 (.inl rfl) (.bool s) (.slice (some ⟨g1, 0, none⟩) l1 c1) (.slice (some ⟨g2, 0, none⟩) l2 c2) (.bool true) (.int .i64 n) (.int .i64 D)
  have HN2 := HN.out.kept6 k0 (.bool s) (.slice (some ⟨g1, 0, none⟩) l1 c1) (.slice (some ⟨g2, 0, none⟩) l2 c2) (.bool true) (.int .i64 n) (.int .i64 D)
  have HD2 := HD.out.kept6 k0 (.bool s) (.slice (some ⟨g1, 0, none⟩) l1 c1) (.slice (some ⟨g2, 0, none⟩) l2 c2) (.bool true) (.int .i64 n) (.int .i64 D)
  clear hW1 HA1 HB1 HN HD
  go_wp2
  refine ⟨hG, ?_⟩
  clear hG k0 k1 k2 k3 k4 k5 f0 f1 f2 f3 f4 f5
  unfold put6 at HP HB2 HN2 HD2
  generalize World.setCell _ ⟨w.heap.size + 1, 5, none⟩ _ = V at HP HB2 HN2 HD2 ⊢
  intro W7 hW1 hW2
  replace HP := HP.far hW2
  replace HB2 := HB2.trans (hW2.mono HB2.size)
  replace HN2 := HN2.far hW2
  replace HD2 := HD2.far hW2
  clear hW1 hW2
  obtain ⟨⟨k0, k1, k2, k3, k4, k5⟩, f0, f1, f2, f3, f4, f5⟩ := HP.six
  go_wp2
  refine bodyPost_ret (v := .agg #[.bool s, .slice (some ⟨g1, 0, none⟩) l1 c1, .slice (some ⟨g2, 0, none⟩) l2 c2, .bool true, .int .i64 n, .int .i64 D]) (by simp [results, Try.results96, go_sem, k0, k1, k2, k3, k4, k5]) rfl ⟨_, rfl, ⟨s, g1, l1, c1, n.natAbs, g2, l2, c2, D, true, n, D, rfl, ⟨HN2, HD2, by omega, HZ.out.sz.1, HZ.out.sz.2, fun _ => ⟨HZ.out, ?_, rfl⟩⟩, ?_⟩, HB2⟩
  · rw [← hs, sg_abs]
  · rw [← hs, sg_abs]
end Go.Proofs.Ytmnnpkmjamhmcab
