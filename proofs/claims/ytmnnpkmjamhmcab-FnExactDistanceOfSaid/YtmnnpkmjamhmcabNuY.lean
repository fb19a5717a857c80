/- NuW, NuV, NuH, NuJ in one text (tools/merge.py). -/
import Derived.Test.YtmnnpkmjamhmcabNuX
import Derived.Test.YtmnnpkmjamhmcabFrSumE
import Derived.Test.YtmnnpkmjamhmcabWidth
import Derived.Test.YtmnnpkmjamhmcabWdJ
import Derived.Test.YtmnnpkmjamhmcabD3
namespace Go.Proofs.Ytmnnpkmjamhmcab
open Go.RowKit Go.PlainAid
set_option maxHeartbeats 1600000
set_option maxRecDepth 20000

/-- n numbers, each in a cell of block g -/
def NL (W : World) (g n : Nat) (f : Nat → Nat) : Prop := ∀ i, i < n → g < W.heap.size ∧ ∃ a l c, W.cell? ⟨g, i, none⟩ = some (.slice a l c) ∧ Na .u64 18446744073709551616 W a l c (f i)
theorem NL.far {W V : World} {g n : Nat} {f : Nat → Nat} (h : NL W g n f) (hb : Below W.heap.size W V) : NL V g n f := fun i hi => by
  obtain ⟨hg, a, l, c, h1, h2⟩ := h i hi
  exact ⟨Nat.lt_of_lt_of_le hg hb.size, a, l, c, (hb.cell (p := ⟨g, i, none⟩) hg).trans h1, h2.far hb⟩
theorem NL.drewN {W : World} {g n : Nat} {f : Nat → Nat} (h : NL W g n f) (m : Nat) : NL (W.drewN m) g n f := h
theorem Sz.sum {f : Nat → Nat} {e : Nat} (h : ∀ i, Sz (f i) e) (s : Nat → Nat) (h0 : s 0 = 0) (hs : ∀ k, s (k + 1) = s k + f k) : ∀ k, Sz (s k) (e + k)
  | 0 => by rw [h0]; exact Nat.lt_of_lt_of_le Nat.zero_lt_one (Nat.one_le_two_pow)
  | k + 1 => by rw [hs]; exact (Sz.sum h s h0 hs k).add ((h k).up (by omega))
theorem sumOf_any (g n cap : Nat) (f s : Nat → Nat) (e : Nat) (w : World) (h : NL w g n f) (hn : n ≤ 64) (he : e ≤ 30000000) (hf : ∀ i, Sz (f i) e) (h0 : s 0 = 0) (hs : ∀ k, s (k + 1) = s k + f k) :
    Calls Try.prog 137 #[.slice (some ⟨g, 0, none⟩) n cap] w fun x w' => ∃ a l c, x = .returned (.slice a l c) ∧ Na .u64 18446744073709551616 w' a l c (s n) ∧ Below w.heap.size w w' := by
  have HL := Lib.hid h
  have HS := Lib.hid hs
  have HZ := Lib.hid (Sz.sum hf s h0 hs)
  have HF := Lib.hid hf
  have H0 : Hid (Na .u64 18446744073709551616 w none 0 0 (s 0)) := by unfold Hid; rw [h0]; exact Na.zero _ _ _ _ _
  clear h hs hf h0
  go_enter Try.func137, Try.ntmps137
  go_wp2
  go_loopw [3, 8] (fun v iv wr => ∃ (k : Nat) (a : Option Addr) (l c : Nat), k ≤ n ∧ iv = .int .i64 k ∧ v = .slice a l c ∧ Hid (Na .u64 18446744073709551616 wr a l c (s k)) ∧ Hid (Below w.heap.size w wr)) (fun _ iv _ => n - (intOf iv).toNat)
  case atStart => exact ⟨0, _, _, _, Nat.zero_le _, rfl, rfl, H0, Below.refl _ _⟩
  case round =>
    obtain ⟨k, a, l, c, hk, rfl, rfl, HN, HB⟩ := hrel
    clear H0
    by_cases hlt : k < n
    · obtain ⟨hg, a', l', c', hc, hN'⟩ := (HL.out.far HB.out) k hlt
      have hl1 := ((HZ.out k).up (show e + k ≤ 30000064 by omega)).len64 (K := 1000000) (by omega) HN.out.2.1
      have hl2 := ((HF.out k).up he).len64 (K := 1000000) (by omega) hN'.2.1
      have HN2 := Lib.hid hN'
      clear hN'
      go_wp2_with fail
      refine (nplus_any a a' l c l' c' (s k) (f k) wr HN.out HN2.out hl1 hl2).mono ?_
      rintro x w1 ⟨a1, l1, c1, rfl, h1, hb⟩
      rw [← HS.out k] at h1
      have HN3 := Lib.hid h1
      have HB2 := Lib.hid (HB.out.trans (hb.mono HB.out.size))
      clear h1 hb HN HN2 HB hc
      go_wp2
      go_roundw
      case rel => exact ⟨k + 1, a1, l1, c1, hlt, by go_num, rfl, HN3, HB2⟩
      case measure => simp [intOf]; omega
    · obtain rfl : k = n := by omega
      go_wp2
      go_ret
      exact ⟨a, l, c, rfl, HN.out, HB.out⟩
end Go.Proofs.Ytmnnpkmjamhmcab

namespace Go.Proofs.Ytmnnpkmjamhmcab
open Go.RowKit Go.PlainAid
set_option maxHeartbeats 1600000
set_option maxRecDepth 20000

theorem Try.info123 : (Try.prog.info? 123).map (fun i => (i.zero, i.size, i.bytes)) = some (some (.slice none 0 0), 1, 24) := by kernel_rfl
theorem Na.slot {kd : IntKind} {B : Nat} {W : World} {a : Option Addr} {l c N g : Nat} (h : Na kd B W a l c N) (hg : ∃ a' l' c', W.cell? ⟨g, 0, none⟩ = some (.slice a' l' c')) (k : Nat) (v : Value) : Na kd B (W.setCell ⟨g, k, none⟩ v) a l c N := ⟨h.1, h.2.1, fun j hj => by
  obtain ⟨b, e, hb, hc⟩ := h.2.2 j hj
  obtain ⟨b', e', _, hc'⟩ := h.2.2 0 (by omega)
  rw [e] at e'
  cases e'
  obtain ⟨a', l', c', hs⟩ := hg
  have hne : g ≠ b := fun e => by subst e; rw [hs] at hc'; cases hc'
  exact ⟨b, e, by simpa [World.setCell] using hb, by rw [cell_otherD (addr_neD (.inr hne))]; exact hc⟩⟩
/-- a row of numbers whose first k are there -/
def RN (W : World) (g n k : Nat) (f : Nat → Nat) : Prop := ∀ i, i < n → ∃ a l c, W.cell? ⟨g, i, none⟩ = some (.slice a l c) ∧ W.frozen? ⟨g, i, none⟩ = false ∧ (i < k → Na .u64 18446744073709551616 W a l c (f i))
theorem RN.far {W V : World} {g n k : Nat} {f : Nat → Nat} (h : RN W g n k f) (hb : Below W.heap.size W V) : RN V g n k f := fun i hi => by
  obtain ⟨a, l, c, h1, h2, h3⟩ := h i hi
  have hg := World.block_lt_of_cell? W _ h1
  exact ⟨a, l, c, (hb.cell (p := ⟨g, i, none⟩) hg).trans h1, (hb.frozen (p := ⟨g, i, none⟩) hg).trans h2, fun hk => (h3 hk).far hb⟩
theorem RN.put {W : World} {g n k l c : Nat} {a : Option Addr} {f : Nat → Nat} (h : RN W g n k f) (hk : k < n) (hN : Na .u64 18446744073709551616 W a l c (f k)) : RN (W.setCell ⟨g, k, none⟩ (.slice a l c)) g n (k + 1) f := fun i hi => by
  obtain ⟨a0, l0, c0, h0, _, _⟩ := h 0 (by omega)
  obtain ⟨a', l', c', h1, h2, h3⟩ := h i hi
  rw [World.frozen?_setCell]
  by_cases e : i = k
  · subst e
    exact ⟨a, l, c, World.cell?_setCell_same W _ _ h1, h2, fun _ => hN.slot ⟨a0, l0, c0, h0⟩ _ _⟩
  · exact ⟨a', l', c', by rw [cell_otherD (addr_neD (by omega))]; exact h1, h2, fun hk2 => (h3 (by omega)).slot ⟨a0, l0, c0, h0⟩ _ _⟩
theorem RN.made {w : World} {B g n cap : Nat} {e : TypeId} {f : Nat → Nat} (h : w.ownsRow B e 1 (.slice (some ⟨g, 0, none⟩) n cap) n (madeCells (Value.slice none 0 0).cells (n * 1)).toList) : RN w g n 0 f := fun i hi => by
  have hl : (madeCells (Value.slice none 0 0).cells (n * 1)).toList = List.replicate n (.slice none 0 0) := by
    have e : (Value.slice none 0 0).cells = #[.slice none 0 0] := rfl
    rw [e, toList_madeCells_one, Nat.mul_one]
  rw [hl] at h
  have h1 := World.ownsRow.cellAt h i (by simpa using hi)
  exact ⟨none, 0, 0, by rw [h1]; simp [hi], World.ownsRow.frozenAt h i, fun hk => absurd hk (by omega)⟩
theorem RN.full {W : World} {g n : Nat} {f : Nat → Nat} (h : RN W g n n f) : NL W g n f := fun i hi => by
  obtain ⟨a, l, c, h1, _, h3⟩ := h i hi
  exact ⟨World.block_lt_of_cell? W _ h1, a, l, c, h1, h3 hi⟩
theorem weights_any (a : Option Addr) (n cap : Nat) (xs : List (Int × Int)) (w : World) (hx : FIn w a n xs) (hn1 : 1 ≤ n) (hn : n ≤ 64) (hv : ∀ i, i < n → VF (xs.getD i (0, 1)).1 (xs.getD i (0, 1)).2) (hp : ∀ i, i < n → 0 ≤ (xs.getD i (0, 1)).1) :
    Calls Try.prog 136 #[.slice a n cap] w fun e w' => ∃ g a1 l1 c1, e = .returned (.tuple #[.slice (some ⟨g, 0, none⟩) n n, .slice a1 l1 c1]) ∧ w.heap.size ≤ g ∧ NL w' g n (fun i => wgt (scl xs n) (xs.getD i (0, 1))) ∧ Na .u64 18446744073709551616 w' a1 l1 c1 (scl xs n) ∧ Below w.heap.size w w' := by
  obtain ⟨i0, hi, hz0, hz1, hz2⟩ := info_parts Try.info123
  have HX := Lib.hid hx
  have HV := Lib.hid hv
  have HPs := Lib.hid hp
  have HSz : Hid (∀ k, k ≤ n → Sz (scl xs k) 4000) := fun k hk => (scl_sz (xs := xs) (k := k) fun i hi => (hv i (by omega)).2.1).up (by omega)
  have HT0 : Hid (∀ k, k ≤ n → 0 < scl xs k) := fun k hk => scl_pos fun i hi => (hv i (by omega)).1
  clear hx hv hp
  go_enter Try.func136, Try.ntmps136
  go_wp2_with fail
  refine (natOf_any 1 _ (by omega)).mono ?_
  rintro e w1 ⟨a1, l1, c1, rfl, h1, hb⟩
  have H1 : Hid (Na .u64 18446744073709551616 w1 a1 l1 c1 (scl xs 0)) := h1
  have HB1 := Lib.hid hb
  clear h1 hb
  go_wp2
  go_loopw [4, 17] (fun v iv wr => ∃ (k : Nat) (a1 : Option Addr) (l1 c1 : Nat), k ≤ n ∧ iv = .int .i64 k ∧ v = .slice a1 l1 c1 ∧ Hid (Na .u64 18446744073709551616 wr a1 l1 c1 (scl xs k)) ∧ Hid (Below w.heap.size w wr)) (fun _ iv _ => n - (intOf iv).toNat)
  case atStart => exact ⟨0, a1, l1, c1, Nat.zero_le _, rfl, rfl, H1, HB1⟩
  case round =>
    clear H1 HB1
    obtain ⟨k, a1, l1, c1, hk, rfl, rfl, HS, HB⟩ := hrel
    by_cases hlt : k < n
    · obtain ⟨b', o, x, d, rfl, hxy, k0, k1, hadd⟩ := (HX.out.far HB.out).at hlt
      have hgd : xs.getD k (0, 1) = (x, d) := by rw [List.getD_eq_getElem?_getD, hxy]; rfl
      have hvk := HV.out k hlt
      rw [hgd] at hvk
      have hd1 := hvk.1
      have hd2 := hvk.2.1
      obtain ⟨D, rfl⟩ : ∃ D : Nat, d = D := ⟨d.toNat, by omega⟩
      have hsc : scl xs (k + 1) = scl xs k * (D / Nat.gcd D (scl xs k % D)) := by
        simp only [scl]
        rw [hgd]
        rfl
      have HSC := Lib.hid hsc
      have hl1 := (HSz.out k hk).len64 (K := 1000000) (by omega) HS.out.2.1
      have A6 := D2.new wr (.int .i64 x) (.int .i64 D) 27
      have hbA : Below wr.heap.size wr (wr.alloc (.cells #[.int .i64 x, .int .i64 D] 27)) := (Below.refl _ _).alloc (Nat.le_refl _) _
      have HS2 := HS.out.far hbA
      have HB2 := HB.out.trans (hbA.mono HB.out.size)
      clear hsc hvk hxy hgd hbA HS HB
      go_upto_region 5 with fail
      generalize wr.alloc (.cells #[.int .i64 x, .int .i64 D] 27) = w2 at A6 HS2 HB2 ⊢
      generalize wr.heap.size = g6 at A6 ⊢
      clear k0 k1
      obtain ⟨⟨z0, z1⟩, _⟩ := id A6
      go_wp2_with fail
      refine (nshort_any a1 l1 c1 (scl xs k) D w2 HS2 hl1 (by omega) (by omega)).mono ?_
      rintro e w3 ⟨a2, l2, c2, rfl, _, hb⟩
      replace A6 := A6.far hb
      replace HS2 := HS2.far hb
      replace HB2 := HB2.trans (hb.mono HB2.size)
      clear hb z0 z1
      obtain ⟨r, hr⟩ : ∃ r, scl xs k % D = r := ⟨_, rfl⟩
      have hrD : r < D := by rw [← hr]; exact Nat.mod_lt _ (by omega)
      rw [hr] at HSC ⊢
      clear hr
      have hgp : 0 < Nat.gcd D r := Nat.gcd_pos_of_pos_left _ (by omega)
      have hgle : Nat.gcd D r ≤ D := Nat.le_of_dvd (by omega) (Nat.gcd_dvd_left _ _)
      have HCD : Hid (∀ W : World, Calls Try.prog 108 #[.int .i64 D, .int .i64 r] W fun e w' => e = .returned (.int .i64 (Nat.gcd D r : Nat)) ∧ Below W.heap.size W w') := fun W => (common_any D r W (by omega) (by omega) (by omega) (by omega)).mono fun e w' ⟨h1, m, h2⟩ => ⟨by rw [h1]; congr 2, by rw [h2]; exact below_drewN (Below.refl _ _) m⟩
      obtain ⟨G, hG⟩ : ∃ G, Nat.gcd D r = G := ⟨_, rfl⟩
      rw [hG] at HCD hgp hgle HSC
      have hq : (D : Int).tdiv (G : Int) = ((D / G : Nat) : Int) := by rw [Int.tdiv_eq_ediv_of_nonneg (by omega)]; push_cast; rfl
      have hGz : ((G : Int) == 0) = false := by simp; omega
      have hG0 : ¬ (G : Int) = 0 := by omega
      have hqle := Nat.div_le_self D G
      obtain ⟨q, hqq⟩ : ∃ q, D / G = q := ⟨_, rfl⟩
      rw [hqq] at hq HSC hqle
      have hq2 : (D : Int) / (G : Int) = q := by rw [← hqq]; push_cast; rfl
      have hwq : IntKind.i64.wrap (q : Int) = q := by rw [IntKind.wrap_i64]; omega
      have hGn : G ≠ 0 := by omega
      clear hG hqq
      go_upto_region 6 with fail
      obtain ⟨z0, z1⟩ := (A6.drew).gr (rw := none) (by simp)
      clear A6
      refine wp_region_mix (none) [0, 1, 2, 3, 4, 5, 6, 7] [8, 9, 10] (by kernel_rfl) (by kernel_rfl) ?_
      simp only [pickOps, List.filterMap_cons, List.filterMap_nil, List.getElem?_toArray, List.getElem?_cons_succ, List.getElem?_cons_zero]
      repeat (refine wpQuietG_step (fun K hK => ?_); go_simp; first | (refine hK _ ?_; clear hK K) | (apply Exists.intro; refine ⟨fun _ => ?_, hK _ ?_⟩; (first | (with_reducible exact HCD.out _)); clear hK K))
      refine wpQuietG_nil ?_
      clear z0 z1
      intro V1 hG1 hb
      replace HS2 := HS2.far (of_drew hb)
      replace HB2 := HB2.trans ((of_drew hb).mono HB2.size)
      clear hb
      go_wp2_with fail
      refine (natOf_any q _ (by omega)).mono ?_
      rintro e V2 ⟨a3, l3, c3, rfl, h3, hb⟩
      replace HS2 := HS2.far hb
      replace HB2 := HB2.trans (hb.mono HB2.size)
      replace hG1 := gr_step hG1 hb
      clear hb
      go_wp2
      try refine ⟨hG1, ?_⟩
      clear hG1
      intro V3 hG1 hb
      replace HS2 := HS2.far hb
      replace HB2 := HB2.trans (hb.mono HB2.size)
      replace h3 := h3.far hb
      clear hb
      have hl3 : l3 ≤ 1000000 := by
        have hq2 : q < 18446744073709551616 ^ 1 := by omega
        have := h3.2.1.le (by omega) hq2
        omega
      go_wp2_with fail
      refine (ntimes_any a1 a3 l1 c1 l3 c3 (scl xs k) q _ HS2 h3 hl1 hl3).mono ?_
      rintro e V4 ⟨a4, l4, c4, rfl, h4, hb⟩
      rw [← HSC.out] at h4
      have HB4 := HB2.trans (hb.mono HB2.size)
      replace hG1 := gr_step hG1 hb
      clear hb HS2 h3 HB2
      go_wp2
      try refine ⟨hG1, ?_⟩
      clear hG1
      intro V5 hG1 hb
      replace h4 := h4.far hb
      replace HB4 := HB4.trans (hb.mono HB4.size)
      clear hb
      go_wp2
      try refine ⟨hG1, ?_⟩
      clear hG1
      intro V6 hG1 hb
      have HN6 := Lib.hid (h4.far hb)
      have HB6 := Lib.hid (HB4.trans (hb.mono HB4.size))
      clear hb hG1 h4 HB4
      go_wp2
      go_roundw
      case rel => exact ⟨k + 1, a4, l4, c4, hlt, by go_num, rfl, HN6, HB6⟩
      case measure => simp [intOf]; omega
    · obtain rfl : k = n := by omega
      have hzs := HB.out.size
      go_wp2_with (at_make; refine wpList_make_full _ rfl _ _ 121 rfl w.heap.size 123 i0 _ 1 Try.underlying121 hi hz0 hz1 _ _ _ _ k rfl rfl rfl rfl (by rw [hz2]; omega) (by unfold maxLen; omega) hzs ?_; intro w3 hown hgrow)
      have HR3 : Hid (RN w3 wr.heap.size k 0 (fun i => wgt (scl xs k) (xs.getD i (0, 1)))) := RN.made hown
      have hb3 : Below wr.heap.size wr w3 := (Below.refl _ _).grown hgrow (Nat.le_refl _) (by simp)
      have HS3 := Lib.hid (HS.out.far hb3)
      have HB3 := Lib.hid (HB.out.trans (hb3.mono HB.out.size))
      have hl1 := (HSz.out k hk).len64 (K := 1000000) (by omega) HS.out.2.1
      clear hown hgrow HS HB hb3
      generalize wr.heap.size = g at HR3 hzs ⊢
      have HR0 : Hid (0 < k ∧ w.heap.size ≤ g) := ⟨hn1, hzs⟩
      go_loopw [44] (fun iv wr => ∃ j : Nat, j ≤ k ∧ iv = .int .i64 j ∧ Hid (RN wr g k j (fun i => wgt (scl xs k) (xs.getD i (0, 1)))) ∧ Hid (Na .u64 18446744073709551616 wr a1 l1 c1 (scl xs k)) ∧ Hid (Below w.heap.size w wr)) (fun iv _ => k - (intOf iv).toNat)
      case atStart => exact ⟨0, Nat.zero_le _, rfl, HR3, HS3, HB3⟩
      case round =>
        clear HR3 HS3 HB3
        obtain ⟨j, hj, rfl, HRr, HSr, HBr⟩ := hrel
        by_cases hlt2 : j < k
        · obtain ⟨b', o, x, d, rfl, hxy, k0, k1, hadd⟩ := (HX.out.far HBr.out).at hlt2
          have hgd : xs.getD j (0, 1) = (x, d) := by rw [List.getD_eq_getElem?_getD, hxy]; rfl
          have hvk := HV.out j hlt2
          have hpk := HPs.out j hlt2
          rw [hgd] at hvk hpk
          have hd1 := hvk.1
          have hd2 := hvk.2.1
          have hx2 := hvk.2.2.2.1
          simp only at hpk
          obtain ⟨D, rfl⟩ : ∃ D : Nat, d = D := ⟨d.toNat, by omega⟩
          obtain ⟨X, rfl⟩ : ∃ X : Nat, x = X := ⟨x.toNat, by omega⟩
          have hwv : wgt (scl xs k) (xs.getD j (0, 1)) = scl xs k / D * X := by rw [hgd]; rfl
          have HWV := Lib.hid hwv
          have A6 := D2.new wr (.int .i64 X) (.int .i64 D) 27
          have hbA : Below wr.heap.size wr (wr.alloc (.cells #[.int .i64 X, .int .i64 D] 27)) := (Below.refl _ _).alloc (Nat.le_refl _) _
          have hR2 := HRr.out.far hbA
          have hS2 := HSr.out.far hbA
          have hB2 := HBr.out.trans (hbA.mono HBr.out.size)
          clear hwv hvk hxy hgd hbA HRr HSr HBr
          go_upto_region 12 with fail
          generalize wr.alloc (.cells #[.int .i64 X, .int .i64 D] 27) = w4 at A6 hR2 hS2 hB2 ⊢
          generalize wr.heap.size = g6 at A6 ⊢
          clear k0 k1
          obtain ⟨⟨z0, z1⟩, _⟩ := id A6
          go_wp2_with fail
          refine (nshort_any a1 l1 c1 (scl xs k) D w4 hS2 hl1 (by omega) (by omega)).mono ?_
          rintro e w5 ⟨a2, l2, c2, rfl, h2, hb⟩
          replace A6 := A6.far hb
          replace hR2 := hR2.far hb
          replace hS2 := hS2.far hb
          replace hB2 := hB2.trans (hb.mono hB2.size)
          have hl2 := ((HSz.out k hk).le (Nat.div_le_self _ D)).len64 (K := 1000000) (by omega) h2.2.1
          clear hb z0 z1
          obtain ⟨⟨z0, z1⟩, _⟩ := id A6
          go_wp2_with fail
          refine (natOf_any X _ (by omega)).mono ?_
          rintro e w6 ⟨a3, l3, c3, rfl, h3, hb⟩
          replace h2 := h2.far hb
          replace hR2 := hR2.far hb
          replace hS2 := hS2.far hb
          replace hB2 := hB2.trans (hb.mono hB2.size)
          clear hb z0 z1 A6
          have hl3 : l3 ≤ 1000000 := by
            have hq2 : X < 18446744073709551616 ^ 1 := by omega
            have := h3.2.1.le (by omega) hq2
            omega
          go_wp2_with fail
          refine (ntimes_any a2 a3 l2 c2 l3 c3 (scl xs k / D) X _ h2 h3 hl2 hl3).mono ?_
          rintro e w7 ⟨a4, l4, c4, rfl, h4, hb⟩
          rw [← HWV.out] at h4
          replace hR2 := hR2.far hb
          replace hS2 := hS2.far hb
          replace hB2 := hB2.trans (hb.mono hB2.size)
          clear hb h2 h3
          obtain ⟨aj, lj, cj, m0, m1, _⟩ := hR2 j hlt2
          obtain ⟨a0, l0, c0, m2, _, _⟩ := hR2 0 HR0.out.1
          have HR5 := Lib.hid (hR2.put hlt2 h4)
          have HS5 := Lib.hid (hS2.slot ⟨a0, l0, c0, m2⟩ j (.slice a4 l4 c4))
          have HB5 : Hid (Below w.heap.size w (w7.setCell ⟨g, j, none⟩ (.slice a4 l4 c4))) := hB2.setCell (p := ⟨g, j, none⟩) HR0.out.2 _
          clear hR2 hS2 hB2 h4 m2
          go_wp2
          go_roundw
          case rel => exact ⟨j + 1, hlt2, by go_num, HR5, HS5, HB5⟩
          case measure => simp [intOf]; omega
        · obtain rfl : j = k := by omega
          have HL := Lib.hid HRr.out.full
          clear HRr
          go_wp2
          go_ret2
          exact ⟨g, a1, l1, c1, rfl, HR0.out.2, HL.out, HSr.out, HBr.out⟩
end Go.Proofs.Ytmnnpkmjamhmcab

namespace Go.Proofs.Ytmnnpkmjamhmcab
open Go.RowKit Go.PlainAid
set_option maxHeartbeats 1600000
set_option maxRecDepth 20000

theorem Sz.nil (e : Nat) : Sz 0 e := Nat.pow_pos (by omega)
theorem rats_rat (xs : List (Int × Int)) : ∀ k, rats (fun i => xs.getD i (0, 1)) k = rat xs k
  | 0 => rfl
  | k + 1 => by simp only [rats, rat, rats_rat xs k]
theorem NL.kept2 {W : World} {g n b : Nat} {f : Nat → Nat} {x y : Value} (h : NL W g n f) (hne : b ≠ g) (hD : D2 W b x y) (hx : ∃ a l c, x = .slice a l c) {l c : Nat} {p : Option Addr} (u : Value) : NL (putD W b (.slice p l c) u) g n f := fun i hi => by
  obtain ⟨hg, a', l', c', h1, h2⟩ := h i hi
  obtain ⟨a0, l0, c0, rfl⟩ := hx
  refine ⟨by rw [size_putD]; exact hg, a', l', c', ?_, ?_⟩
  · unfold putD
    rw [cell_otherD (addr_neD (.inr hne)), cell_otherD (addr_neD (.inr hne))]
    exact h1
  · unfold putD
    exact (h2.slot ⟨_, _, _, hD.1.1⟩ 0 _).slot ⟨_, _, _, World.cell?_setCell_same W _ _ hD.1.1⟩ 1 _
theorem Na.kept2 {W : World} {b N l' c' : Nat} {a' : Option Addr} {x y : Value} (h : Na .u64 18446744073709551616 W a' l' c' N) (hD : D2 W b x y) (hx : ∃ a l c, x = .slice a l c) {l c : Nat} {p : Option Addr} (u : Value) : Na .u64 18446744073709551616 (putD W b (.slice p l c) u) a' l' c' N := by
  obtain ⟨a0, l0, c0, rfl⟩ := hx
  unfold putD
  exact (h.slot ⟨_, _, _, hD.1.1⟩ 0 _).slot ⟨_, _, _, World.cell?_setCell_same W _ _ hD.1.1⟩ 1 _
theorem wsm_sz {T e : Nat} {xs : List (Int × Int)} (hT : Sz T e) : ∀ i, (xs.getD i (0, 1)).1 ≤ 1000000000000000000 → Sz (wgt T (xs.getD i (0, 1))) (e + 60) := fun i hi => by
  unfold wgt
  refine ((hT.le (Nat.div_le_self _ _)).mul (f := 60) ?_)
  have e2 : (1152921504606846976 : Nat) = 2 ^ 60 := by decide
  unfold Sz
  rw [← e2]
  omega
theorem ch_sum {n : Nat} {xs : List (Int × Int)} (hv : ∀ i, i < n → VF (xs.getD i (0, 1)).1 (xs.getD i (0, 1)).2) (hp : ∀ i, i < n → 0 ≤ (xs.getD i (0, 1)).1) :
    (rats (fun i => xs.getD i (0, 1)) n).1 = (rats (fun i => xs.getD i (0, 1)) n).2 ↔ wsm (scl xs n) xs n = scl xs n := by
  rw [rats_rat]
  have h1 := rat_wsm (T := scl xs n) (xs := xs) (k := n) fun i hi => ⟨(hv i hi).1, hp i hi, scl_den hi⟩
  have hT : 0 < scl xs n := scl_pos fun i hi => (hv i hi).1
  have hQ : 0 < (rat xs n).2 := rat_pos fun i hi => (hv i hi).1
  generalize (rat xs n).1 = P at *
  generalize (rat xs n).2 = Q at *
  generalize scl xs n = T at *
  generalize wsm T xs n = W at *
  constructor
  · intro h
    subst h
    have : (W : Int) = T := Int.eq_of_mul_eq_mul_left (a := P) (by omega) (by rw [← h1, Int.mul_comm])
    omega
  · intro h
    rw [h] at h1
    exact Int.eq_of_mul_eq_mul_left (a := (T : Int)) (by omega) (by rw [h1, Int.mul_comm])
theorem shares_yes (a : Option Addr) (n cap : Nat) (xs : List (Int × Int)) (w : World) (hx : FIn w a n xs) (hc : IsCh xs) :
    Calls Try.prog 85 #[.slice a n cap] w fun e w' => ∃ g a1 l1 c1, e = .returned (.tuple #[.agg #[.slice (some ⟨g, 0, none⟩) n n, .slice a1 l1 c1], .bool true]) ∧ NL w' g n (fun i => wgt (scl xs n) (xs.getD i (0, 1))) ∧ Na .u64 18446744073709551616 w' a1 l1 c1 (scl xs n) ∧ Below w.heap.size w w' := by
  obtain ⟨h1, h2, h3, h4, h5⟩ := hc
  have hl := hx.1
  rw [hl] at h1 h2 h4 h5
  have hv : ∀ i, i < n → VF (xs.getD i (0, 1)).1 (xs.getD i (0, 1)).2 := fun i hi => h3.getD (by omega)
  have HX := Lib.hid hx
  have HV := Lib.hid hv
  have HP := Lib.hid h4
  have HS : Hid (wsm (scl xs n) xs n = scl xs n) := (ch_sum hv h4).1 h5
  have HI : Hid (∀ W : World, Calls Try.prog 109 #[.int .i64 n, .int .i64 1, .int .i64 16] W fun e w' => e = .returned (.bool true) ∧ W = w') := fun W => btwI_yes n 1 16 W (by omega) (by omega)
  have A := D2.new w (.slice none 0 0) (.slice none 0 0) 125
  have B := (Below.refl w.heap.size w).alloc (Nat.le_refl _) (.cells #[.slice none 0 0, .slice none 0 0] 125)
  clear h3 h4 h5 hx hv
  go_enter Try.func85, Try.ntmps85
  go_wp2_with (go_at_call 109; with_reducible refine (HI.out _).mono ?_; rintro e w1 ⟨rfl, rfl⟩)
  generalize w.alloc (.cells _ _) = w1 at A B ⊢
  have HA := Lib.hid A
  have HB := Lib.hid B
  clear A B HI
  go_loopw [15] (fun iv wr => ∃ k : Nat, k ≤ n ∧ iv = .int .i64 k ∧ Hid (D2 wr w.heap.size (.slice none 0 0) (.slice none 0 0)) ∧ Hid (Below w.heap.size w wr)) (fun iv _ => n - (intOf iv).toNat)
  case atStart => exact ⟨0, Nat.zero_le _, rfl, HA, HB⟩
  case round =>
    clear HA HB
    obtain ⟨k, hk, rfl, HA, HB⟩ := hrel
    by_cases hlt : k < n
    · obtain ⟨b', o, x, d, rfl, hxy, k0, k1, hadd⟩ := (HX.out.far HB.out).at hlt
      have hgd : xs.getD k (0, 1) = (x, d) := by rw [List.getD_eq_getElem?_getD, hxy]; rfl
      have hvk := HV.out k hlt
      have hpk := HP.out k hlt
      rw [hgd] at hvk hpk
      have hpk2 : ¬ x < 0 := by simpa using hpk
      have A6 := D2.new wr (.int .i64 x) (.int .i64 d) 27
      have hbA : Below wr.heap.size wr (wr.alloc (.cells #[.int .i64 x, .int .i64 d] 27)) := (Below.refl _ _).alloc (Nat.le_refl _) _
      have hA2 := HA.out.far hbA
      have hB2 := HB.out.trans (hbA.mono HB.out.size)
      clear hxy hgd hbA HA HB hpk
      go_upto_region 6 with fail
      generalize wr.alloc (.cells #[.int .i64 x, .int .i64 d] 27) = w4 at A6 hA2 hB2 ⊢
      generalize wr.heap.size = g6 at A6 ⊢
      clear k0 k1
      obtain ⟨⟨z0, z1⟩, _⟩ := id A6
      go_wp2_with fail
      refine (valid_yes x d _ hvk).mono ?_
      rintro e w5 ⟨rfl, hb⟩
      clear z0 z1
      obtain ⟨⟨z0, z1⟩, _⟩ := A6.far hb
      have HA3 := Lib.hid (hA2.far hb)
      have HB3 := Lib.hid (hB2.trans (hb.mono hB2.size))
      clear hvk A6 hA2 hB2 hb
      go_wp2
      go_roundw
      case rel => exact ⟨k + 1, hlt, by go_num, HA3, HB3⟩
      case measure => simp [intOf]; omega
    · obtain rfl : k = n := by omega
      have hA2 := HA.out
      have hB2 := HB.out
      clear HA HB
      go_wp2_with fail
      refine (weights_any a k cap xs wr (HX.out.far hB2) h1 (by omega) HV.out HP.out).mono ?_
      rintro e w5 ⟨g, a1, l1, c1, rfl, hgz, hN, hT, hb⟩
      have hbz := hA2.lt
      replace hA2 := hA2.far hb
      replace hB2 := hB2.trans (hb.mono hB2.size)
      clear hb
      have hTz : Sz (scl xs k) 4000 := (scl_sz (xs := xs) (k := k) fun i hi => (HV.out i hi).2.1).up (by omega)
      have hl1 := hTz.len64 (K := 1000000) (by omega) hT.2.1
      have hfz : ∀ i, Sz (if i < k then wgt (scl xs k) (xs.getD i (0, 1)) else 0) 4060 := fun i => by
        split
        · next h => exact wsm_sz hTz i (HV.out i h).2.2.2.1
        · exact Sz.nil _
      have hsm : ∀ j, j ≤ k → ∃ s : Nat → Nat, s 0 = 0 ∧ (∀ q, s (q + 1) = s q + (if q < k then wgt (scl xs k) (xs.getD q (0, 1)) else 0)) ∧ s j = wsm (scl xs k) xs j := by
        intro j hj
        refine ⟨fun q => wsm (scl xs k) xs (min q k), by simp [wsm], fun q => ?_, by simp only; rw [Nat.min_eq_left hj]⟩
        by_cases h : q < k
        · show wsm _ xs (min (q + 1) k) = wsm _ xs (min q k) + _
          rw [if_pos h, Nat.min_eq_left (by omega), Nat.min_eq_left (by omega)]
          rfl
        · show wsm _ xs (min (q + 1) k) = wsm _ xs (min q k) + _
          rw [if_neg h, Nat.min_eq_right (by omega), Nat.min_eq_right (by omega)]
          rfl
      obtain ⟨s, hs0, hs1, hs2⟩ := hsm k (Nat.le_refl _)
      have hNf : NL w5 g k (fun i => if i < k then wgt (scl xs k) (xs.getD i (0, 1)) else 0) := fun i hi => by
        obtain ⟨q1, q2⟩ := hN i hi
        simp only [if_pos hi]
        exact ⟨q1, q2⟩
      go_wp2_with fail
      refine (sumOf_any g k k _ s 4060 w5 hNf (by omega) (by omega) hfz hs0 hs1).mono ?_
      rintro e w6 ⟨a2, l2, c2, rfl, hW, hb⟩
      rw [hs2, HS.out] at hW
      replace hA2 := hA2.far hb
      replace hB2 := hB2.trans (hb.mono hB2.size)
      replace hN := hN.far hb
      replace hT := hT.far hb
      clear hb hNf hfz hs0 hs1 hs2
      have hl2 := hTz.len64 (K := 1000000) (by omega) hW.2.1
      go_wp2_with fail
      refine (compare_any a2 a1 l2 c2 l1 c1 _ _ w6 hW hT (by omega)).mono ?_
      rintro e w7 ⟨rfl, hb⟩
      rw [c3_eq]
      replace hA2 := hA2.far hb
      replace hB2 := hB2.trans (hb.mono hB2.size)
      replace hN := hN.far hb
      replace hT := hT.far hb
      clear hb hW
      have HP2 := hA2.put (.slice (some ⟨g, 0, none⟩) k k) (.slice a1 l1 c1)
      have HB9 := below_putD hB2 (Nat.le_refl _) (.slice (some ⟨g, 0, none⟩) k k) (.slice a1 l1 c1)
      have HN9 := hN.kept2 (b := w.heap.size) (by omega) hA2 ⟨_, _, _, rfl⟩ (p := some ⟨g, 0, none⟩) (l := k) (c := k) (.slice a1 l1 c1)
      have HT9 := hT.kept2 hA2 ⟨_, _, _, rfl⟩ (p := some ⟨g, 0, none⟩) (l := k) (c := k) (.slice a1 l1 c1)
      obtain ⟨⟨y0, y1⟩, y2, y3⟩ := hA2
      clear hN hT hB2
      unfold putD at HP2 HB9 HN9 HT9
      go_wp2
      clear y0 y1 y2 y3
      generalize World.setCell _ ⟨w.heap.size, 1, none⟩ _ = V at HP2 HB9 HN9 HT9 ⊢
      obtain ⟨⟨y0, y1⟩, _, _⟩ := id HP2
      refine bodyPost_ret (v := .tuple #[.agg #[.slice (some ⟨g, 0, none⟩) k k, .slice a1 l1 c1], .bool true]) (by simp [results, Try.results85, go_sem, y0, y1]) rfl ⟨g, a1, l1, c1, rfl, HN9, HT9, HB9⟩
theorem shares_no (a : Option Addr) (n cap : Nat) (xs : List (Int × Int)) (w : World) (hx : FIn w a n xs) (hn : n ≤ 1048576) (hc : ¬ IsCh xs) :
    Calls Try.prog 85 #[.slice a n cap] w fun e w' => e = .returned (.tuple #[.agg #[.slice none 0 0, .slice none 0 0], .bool false]) ∧ Below w.heap.size w w' := by
  have hl := hx.1
  have HX := Lib.hid hx
  have HC := Lib.hid hc
  have A := D2.new w (.slice none 0 0) (.slice none 0 0) 125
  have B := (Below.refl w.heap.size w).alloc (Nat.le_refl _) (.cells #[.slice none 0 0, .slice none 0 0] 125)
  clear hx hc
  by_cases h1 : 1 ≤ n ∧ n ≤ 16
  · obtain ⟨h1a, h1b⟩ := h1
    have HI : Hid (∀ W : World, Calls Try.prog 109 #[.int .i64 n, .int .i64 1, .int .i64 16] W fun e w' => e = .returned (.bool true) ∧ W = w') := fun W => btwI_yes n 1 16 W (by omega) (by omega)
    go_enter Try.func85, Try.ntmps85
    go_wp2_with (go_at_call 109; with_reducible refine (HI.out _).mono ?_; rintro e w1 ⟨rfl, rfl⟩)
    generalize w.alloc (.cells _ _) = w1 at A B ⊢
    have HA := Lib.hid A
    have HB := Lib.hid B
    clear A B HI
    go_loopw [15] (fun iv wr => ∃ k : Nat, k ≤ n ∧ iv = .int .i64 k ∧ Hid (∀ i, i < k → VF (xs.getD i (0, 1)).1 (xs.getD i (0, 1)).2 ∧ 0 ≤ (xs.getD i (0, 1)).1) ∧ Hid (D2 wr w.heap.size (.slice none 0 0) (.slice none 0 0)) ∧ Hid (Below w.heap.size w wr)) (fun iv _ => n - (intOf iv).toNat)
    case atStart => exact ⟨0, Nat.zero_le _, rfl, fun i hi => absurd hi (by omega), HA, HB⟩
    case round =>
      clear HA HB
      obtain ⟨k, hk, rfl, HV, HA, HB⟩ := hrel
      by_cases hlt : k < n
      · obtain ⟨b', o, x, d, rfl, hxy, k0, k1, hadd⟩ := (HX.out.far HB.out).at hlt
        have hgd : xs.getD k (0, 1) = (x, d) := by rw [List.getD_eq_getElem?_getD, hxy]; rfl
        have HGD := Lib.hid hgd
        have A6 := D2.new wr (.int .i64 x) (.int .i64 d) 27
        have hbA : Below wr.heap.size wr (wr.alloc (.cells #[.int .i64 x, .int .i64 d] 27)) := (Below.refl _ _).alloc (Nat.le_refl _) _
        have hA2 := HA.out.far hbA
        have hB2 := HB.out.trans (hbA.mono HB.out.size)
        clear hxy hgd hbA HA HB
        go_upto_region 6 with fail
        generalize wr.alloc (.cells #[.int .i64 x, .int .i64 d] 27) = w4 at A6 hA2 hB2 ⊢
        generalize wr.heap.size = g6 at A6 ⊢
        clear k0 k1
        obtain ⟨⟨z0, z1⟩, _⟩ := id A6
        by_cases hvk : VF x d
        · go_wp2_with fail
          refine (valid_yes x d _ hvk).mono ?_
          rintro e w5 ⟨rfl, hb⟩
          clear z0 z1
          obtain ⟨⟨z0, z1⟩, _⟩ := A6.far hb
          have HA3 := hA2.far hb
          have HB3 := hB2.trans (hb.mono hB2.size)
          clear A6 hA2 hB2 hb
          by_cases hx0 : x < 0
          · clear hvk
            obtain ⟨⟨y0, y1⟩, y2, y3⟩ := id HA3
            have HP2 := HA3.put (.slice none 0 0) (.slice none 0 0)
            have HB9 := below_putD HB3 (Nat.le_refl _) (.slice none 0 0) (.slice none 0 0)
            clear HA3 HB3
            unfold putD at HP2 HB9
            go_wp2
            clear y0 y1 y2 y3
            generalize World.setCell _ ⟨w.heap.size, 1, none⟩ _ = V at HP2 HB9 ⊢
            obtain ⟨⟨y0, y1⟩, _, _⟩ := id HP2
            refine bodyPost_ret (v := .tuple #[.agg #[.slice none 0 0, .slice none 0 0], .bool false]) (by simp [results, Try.results85, go_sem, y0, y1]) rfl ⟨rfl, HB9⟩
          · have HV2 : Hid (∀ i, i < k + 1 → VF (xs.getD i (0, 1)).1 (xs.getD i (0, 1)).2 ∧ 0 ≤ (xs.getD i (0, 1)).1) := fun i hi => by
              by_cases e : i = k
              · subst e
                rw [HGD.out]
                exact ⟨hvk, Int.not_lt.1 hx0⟩
              · exact HV.out i (by omega)
            have HA4 := Lib.hid HA3
            have HB4 := Lib.hid HB3
            clear hvk HV HGD HA3 HB3
            go_wp2
            go_roundw
            case rel => exact ⟨k + 1, hlt, by go_num, HV2, HA4, HB4⟩
            case measure => simp [intOf]; omega
        · go_wp2_with fail
          refine (valid_no x d _ hvk).mono ?_
          rintro e w5 ⟨rfl, hb⟩
          clear z0 z1
          have HA3 := hA2.far hb
          have HB3 := hB2.trans (hb.mono hB2.size)
          clear A6 hA2 hB2 hb hvk
          obtain ⟨⟨y0, y1⟩, y2, y3⟩ := id HA3
          have HP2 := HA3.put (.slice none 0 0) (.slice none 0 0)
          have HB9 := below_putD HB3 (Nat.le_refl _) (.slice none 0 0) (.slice none 0 0)
          clear HA3 HB3
          unfold putD at HP2 HB9
          go_wp2
          clear y0 y1 y2 y3
          generalize World.setCell _ ⟨w.heap.size, 1, none⟩ _ = V at HP2 HB9 ⊢
          obtain ⟨⟨y0, y1⟩, _, _⟩ := id HP2
          refine bodyPost_ret (v := .tuple #[.agg #[.slice none 0 0, .slice none 0 0], .bool false]) (by simp [results, Try.results85, go_sem, y0, y1]) rfl ⟨rfl, HB9⟩
      · obtain rfl : k = n := by omega
        have hA2 := HA.out
        have hB2 := HB.out
        have hv : ∀ i, i < k → VF (xs.getD i (0, 1)).1 (xs.getD i (0, 1)).2 := fun i hi => (HV.out i hi).1
        have hp : ∀ i, i < k → 0 ≤ (xs.getD i (0, 1)).1 := fun i hi => (HV.out i hi).2
        have HS : Hid (wsm (scl xs k) xs k ≠ scl xs k) := fun h => by
          refine HC.out ⟨by omega, by omega, fun p hp => ?_, by rw [hl]; exact hp, by rw [hl]; exact (ch_sum hv hp).2 h⟩
          obtain ⟨i, hi, rfl⟩ := List.getElem_of_mem hp
          have := hv i (by omega)
          rwa [List.getD_eq_getElem?_getD, List.getElem?_eq_getElem hi] at this
        clear HA HB
        go_wp2_with fail
        refine (weights_any a k cap xs wr (HX.out.far hB2) h1a (by omega) hv hp).mono ?_
        rintro e w5 ⟨g, a1, l1, c1, rfl, hgz, hN, hT, hb⟩
        replace hA2 := hA2.far hb
        replace hB2 := hB2.trans (hb.mono hB2.size)
        clear hb hgz
        have hTz : Sz (scl xs k) 4000 := (scl_sz (xs := xs) (k := k) fun i hi => (hv i hi).2.1).up (by omega)
        have hl1 := hTz.len64 (K := 1000000) (by omega) hT.2.1
        have hfz : ∀ i, Sz (if i < k then wgt (scl xs k) (xs.getD i (0, 1)) else 0) 4060 := fun i => by
          split
          · next h => exact wsm_sz hTz i (hv i h).2.2.2.1
          · exact Sz.nil _
        have hsm : ∀ j, j ≤ k → ∃ s : Nat → Nat, s 0 = 0 ∧ (∀ q, s (q + 1) = s q + (if q < k then wgt (scl xs k) (xs.getD q (0, 1)) else 0)) ∧ s j = wsm (scl xs k) xs j := by
          intro j hj
          refine ⟨fun q => wsm (scl xs k) xs (min q k), by simp [wsm], fun q => ?_, by simp only; rw [Nat.min_eq_left hj]⟩
          by_cases h : q < k
          · show wsm _ xs (min (q + 1) k) = wsm _ xs (min q k) + _
            rw [if_pos h, Nat.min_eq_left (by omega), Nat.min_eq_left (by omega)]
            rfl
          · show wsm _ xs (min (q + 1) k) = wsm _ xs (min q k) + _
            rw [if_neg h, Nat.min_eq_right (by omega), Nat.min_eq_right (by omega)]
            rfl
        obtain ⟨s, hs0, hs1, hs2⟩ := hsm k (Nat.le_refl _)
        have hNf : NL w5 g k (fun i => if i < k then wgt (scl xs k) (xs.getD i (0, 1)) else 0) := fun i hi => by
          obtain ⟨q1, q2⟩ := hN i hi
          simp only [if_pos hi]
          exact ⟨q1, q2⟩
        go_wp2_with fail
        refine (sumOf_any g k k _ s 4060 w5 hNf (by omega) (by omega) hfz hs0 hs1).mono ?_
        rintro e w6 ⟨a2, l2, c2, rfl, hW, hb⟩
        replace hA2 := hA2.far hb
        replace hB2 := hB2.trans (hb.mono hB2.size)
        replace hN := hN.far hb
        replace hT := hT.far hb
        have hl2 : l2 ≤ 1000000 := (Sz.sum (e := 4060) (f := fun i => if i < k then wgt (scl xs k) (xs.getD i (0, 1)) else 0) hfz s hs0 hs1 k).len64 (K := 1000000) (by omega) hW.2.1
        rw [hs2] at hW
        clear hb hNf hfz hs0 hs1 hs2
        go_wp2_with fail
        refine (compare_any a2 a1 l2 c2 l1 c1 _ _ w6 hW hT (by omega)).mono ?_
        rintro e w7 ⟨rfl, hb⟩
        obtain ⟨t, ht⟩ : ∃ t, c3 (wsm (scl xs k) xs k) (scl xs k) = t := ⟨_, rfl⟩
        have ht0 : (t != 0) = true := by
          have := HS.out
          rw [← ht]
          unfold c3
          split
          · rfl
          · rw [if_pos (by omega)]
            rfl
        rw [ht]
        replace hA2 := hA2.far hb
        replace hB2 := hB2.trans (hb.mono hB2.size)
        clear hb hW hN hT ht
        obtain ⟨⟨y0, y1⟩, y2, y3⟩ := id hA2
        have HP2 := hA2.put (.slice none 0 0) (.slice none 0 0)
        have HB9 := below_putD hB2 (Nat.le_refl _) (.slice none 0 0) (.slice none 0 0)
        clear hA2 hB2
        unfold putD at HP2 HB9
        go_wp2
        clear y0 y1 y2 y3
        generalize World.setCell _ ⟨w.heap.size, 1, none⟩ _ = V at HP2 HB9 ⊢
        obtain ⟨⟨y0, y1⟩, _, _⟩ := id HP2
        refine bodyPost_ret (v := .tuple #[.agg #[.slice none 0 0, .slice none 0 0], .bool false]) (by simp [results, Try.results85, go_sem, y0, y1]) rfl ⟨rfl, HB9⟩
  · have HI : Hid (∀ W : World, Calls Try.prog 109 #[.int .i64 n, .int .i64 1, .int .i64 16] W fun e w' => e = .returned (.bool false) ∧ W = w') := fun W => btwI_no n 1 16 W (by omega)
    go_enter Try.func85, Try.ntmps85
    go_upto_region 1 with fail
    generalize w.alloc (.cells _ _) = w1 at A B ⊢
    go_wp2_with fail
    refine (HI.out _).mono ?_
    rintro e w2 ⟨rfl, rfl⟩
    obtain ⟨⟨y0, y1⟩, y2, y3⟩ := id A
    have HP2 := A.put (.slice none 0 0) (.slice none 0 0)
    have HB9 := below_putD B (Nat.le_refl _) (.slice none 0 0) (.slice none 0 0)
    clear A B
    unfold putD at HP2 HB9
    go_wp2
    clear y0 y1 y2 y3
    generalize World.setCell _ ⟨w.heap.size, 1, none⟩ _ = V at HP2 HB9 ⊢
    obtain ⟨⟨y0, y1⟩, _, _⟩ := id HP2
    refine bodyPost_ret (v := .tuple #[.agg #[.slice none 0 0, .slice none 0 0], .bool false]) (by simp [results, Try.results85, go_sem, y0, y1]) rfl ⟨rfl, HB9⟩
end Go.Proofs.Ytmnnpkmjamhmcab

namespace Go.Proofs.Ytmnnpkmjamhmcab
open Go.RowKit Go.PlainAid
set_option maxHeartbeats 1600000
set_option maxRecDepth 20000

theorem SrcB.uniq {xs : List (Int × Int)} {m m' : Nat} (h : SrcB xs m) (h' : SrcB xs m') : m = m' := by
  rcases h with ⟨a1, a2, a3, a4⟩ | ⟨a1, a2⟩ <;> rcases h' with ⟨b1, b2, b3, b4⟩ | ⟨b1, b2⟩
  · exact (Nat.pow_right_inj (a := 2) (by omega)).1 (a3.symm.trans b3)
  · exact absurd a4 (b2 m a1 a2 a3)
  · exact absurd b4 (a2 m' b1 b2 b3)
  · omega
theorem Na.kept3 {W : World} {b N l c : Nat} {a : Option Addr} {z : Int} (h : Na .u64 18446744073709551616 W a l c N) (hb : W.cell? ⟨b, 0, none⟩ = some (.int .i64 z)) (x y u : Value) : Na .u64 18446744073709551616 (putT W b x y u) a l c N := ⟨h.1, h.2.1, fun j hj => by
  obtain ⟨g, e, hg, hc⟩ := h.2.2 j hj
  obtain ⟨g', e', _, hc'⟩ := h.2.2 0 (by omega)
  rw [e] at e'
  cases e'
  have hne : b ≠ g := fun e => by subst e; rw [hb] at hc'; cases hc'
  refine ⟨g, e, by simpa [putT, World.setCell] using hg, ?_⟩
  unfold putT
  rw [cell_otherD (addr_neD (.inr hne)), cell_otherD (addr_neD (.inr hne)), cell_otherD (addr_neD (.inr hne))]
  exact hc⟩
theorem NL.kept3 {W : World} {g n b : Nat} {f : Nat → Nat} {z : Int} (h : NL W g n f) (hb : W.cell? ⟨b, 0, none⟩ = some (.int .i64 z)) (x y u : Value) : NL (putT W b x y u) g n f := fun i hi => by
  obtain ⟨hg, a', l', c', h1, h2⟩ := h i hi
  obtain ⟨_, a0, l0, c0, h0, _⟩ := h 0 (by omega)
  have hne : b ≠ g := fun e => by subst e; rw [hb] at h0; cases h0
  refine ⟨by rw [size_putT]; exact hg, a', l', c', ?_, h2.kept3 hb x y u⟩
  unfold putT
  rw [cell_otherD (addr_neD (.inr hne)), cell_otherD (addr_neD (.inr hne)), cell_otherD (addr_neD (.inr hne))]
  exact h1
theorem len_src : ∀ n : Fin 17, 1 ≤ n.val → ((Pl.len (n.val - 1) = 0 ∨ n.val ≠ 2 ^ Pl.len (n.val - 1)) → n.val ≠ 2 ∧ n.val ≠ 4 ∧ n.val ≠ 8 ∧ n.val ≠ 16) ∧ (¬ (Pl.len (n.val - 1) = 0 ∨ n.val ≠ 2 ^ Pl.len (n.val - 1)) → 1 ≤ Pl.len (n.val - 1) ∧ Pl.len (n.val - 1) ≤ 4) ∧ Pl.len (n.val - 1) ≤ 4 := by decide +kernel
theorem source_any (a : Option Addr) (n cap : Nat) (xs : List (Int × Int)) (w : World) (hx : FIn w a n xs) (hn : n ≤ 1048576) :
    Calls Try.prog 146 #[.slice a n cap] w fun e w' => ∃ m : Nat, SrcB xs m ∧ Below w.heap.size w w' ∧
      ((m = 0 ∧ e = .returned (.tuple #[.agg #[.int .i64 0, .slice none 0 0, .slice none 0 0], .bool false])) ∨
       (0 < m ∧ ∃ g a1 l1 c1, e = .returned (.tuple #[.agg #[.int .i64 m, .slice (some ⟨g, 0, none⟩) n n, .slice a1 l1 c1], .bool true]) ∧ NL w' g n (fun i => wgt (scl xs n) (xs.getD i (0, 1))) ∧ Na .u64 18446744073709551616 w' a1 l1 c1 (scl xs n))) := by
  have hl := hx.1
  have A := D3.new w (.int .i64 0) (.slice none 0 0) (.slice none 0 0) 193
  have B := (Below.refl w.heap.size w).alloc (Nat.le_refl _) (.cells #[.int .i64 0, .slice none 0 0, .slice none 0 0] 193)
  have hx2 := hx.far ((Below.refl w.heap.size w).alloc (Nat.le_refl _) (.cells #[.int .i64 0, .slice none 0 0, .slice none 0 0] 193))
  by_cases hc : IsCh xs
  · obtain ⟨h1, h2, _⟩ := id hc
    rw [hl] at h1 h2
    obtain ⟨q1, q2, q3⟩ := len_src ⟨n, by omega⟩ h1
    simp only at q1 q2 q3
    have HWd := Lib.hid (fun W => widthBelow_any n W h1 (by omega))
    obtain ⟨m, hm⟩ : ∃ m, Pl.len (n - 1) = m := ⟨_, rfl⟩
    rw [hm] at q1 q2 q3 HWd
    clear hm
    go_enter Try.func146, Try.ntmps146
    go_upto_region 1 with fail
    generalize w.alloc (.cells _ _) = w1 at A B hx2 ⊢
    go_wp2_with fail
    refine (shares_yes a n cap xs w1 hx2 hc).mono ?_
    rintro e w2 ⟨g, a1, l1, c1, rfl, hN, hT, hb⟩
    replace A := A.far hb
    replace B := B.trans (hb.mono B.size)
    clear hb
    have A4 := D2.new w2 (.slice (some ⟨g, 0, none⟩) n n) (.slice a1 l1 c1) 125
    have hbA : Below w2.heap.size w2 (w2.alloc (.cells #[.slice (some ⟨g, 0, none⟩) n n, .slice a1 l1 c1] 125)) := (Below.refl _ _).alloc (Nat.le_refl _) _
    replace A := A.far hbA
    replace B := B.trans (hbA.mono B.size)
    replace hN := hN.far hbA
    replace hT := hT.far hbA
    clear hbA
    go_upto_region 5 with fail
    generalize w2.alloc (.cells _ _) = w3 at A A4 B hN hT ⊢
    generalize w2.heap.size = g4 at A4 ⊢
    go_wp2_with fail
    refine (HWd.out _).mono ?_
    rintro e w4 ⟨rfl, rfl⟩
    obtain ⟨K, hK⟩ : ∃ K : Nat, 2 ^ m = K := ⟨_, rfl⟩
    have hK2 : K ≤ 16 := by rw [← hK]; exact Nat.pow_le_pow_right (n := 2) (by omega) q3
    have hKI : (2 : Int) ^ m = K := by rw [← hK]; simp
    have hKW : wrap64 ((2 : Int) ^ m) = K := by rw [hKI]; exact IntWalk.wrap64_in _ (by omega)
    rw [hK] at q1 q2
    by_cases hcond : m = 0 ∨ n ≠ K
    · have HS : Hid (SrcB xs 0) := .inr ⟨rfl, fun k k1 k2 k3 _ => by
        obtain ⟨r1, r2, r3, r4⟩ := q1 hcond
        rw [hl] at k3
        have : k = 1 ∨ k = 2 ∨ k = 3 ∨ k = 4 := by omega
        rcases this with rfl | rfl | rfl | rfl
        · exact r1 k3
        · exact r2 k3
        · exact r3 k3
        · exact r4 k3⟩
      clear hN hT A4 q1 q2
      by_cases hm0 : m = 0
      · have hmb : ((m : Int) == 0) = true := by simp [hm0]
        clear hcond
        obtain ⟨⟨y0, y1, y2⟩, y3⟩ := id A
        have y4 := y3 1
        have y5 := y3 2
        replace y3 := y3 0
        have HP2 := A.put (.int .i64 0) (.slice none 0 0) (.slice none 0 0)
        have HB9 := below_putT B (Nat.le_refl _) (.int .i64 0) (.slice none 0 0) (.slice none 0 0)

        clear A B
        unfold putT at *
        go_wp2
        clear y0 y1 y2 y3 y4 y5
        generalize World.setCell _ ⟨w.heap.size, 2, none⟩ _ = V at *
        obtain ⟨⟨y0, y1, y2⟩, _⟩ := id HP2
        refine bodyPost_ret (v := .tuple #[.agg #[.int .i64 0, .slice none 0 0, .slice none 0 0], .bool false]) (by simp [results, Try.results146, go_sem, y0, y1, y2]) rfl ⟨0, HS.out, HB9, .inl ⟨rfl, rfl⟩⟩
      · have hmb : ((m : Int) == 0) = false := by simp [hm0]
        have hnb : ((n : Int) != (K : Int)) = true := by
          have : n ≠ K := hcond.resolve_left hm0
          simp; omega
        clear hcond
        obtain ⟨⟨y0, y1, y2⟩, y3⟩ := id A
        have y4 := y3 1
        have y5 := y3 2
        replace y3 := y3 0
        have HP2 := A.put (.int .i64 0) (.slice none 0 0) (.slice none 0 0)
        have HB9 := below_putT B (Nat.le_refl _) (.int .i64 0) (.slice none 0 0) (.slice none 0 0)

        clear A B
        unfold putT at *
        go_wp2
        clear y0 y1 y2 y3 y4 y5
        generalize World.setCell _ ⟨w.heap.size, 2, none⟩ _ = V at *
        obtain ⟨⟨y0, y1, y2⟩, _⟩ := id HP2
        refine bodyPost_ret (v := .tuple #[.agg #[.int .i64 0, .slice none 0 0, .slice none 0 0], .bool false]) (by simp [results, Try.results146, go_sem, y0, y1, y2]) rfl ⟨0, HS.out, HB9, .inl ⟨rfl, rfl⟩⟩
    · have hm0 : m ≠ 0 := fun h => hcond (.inl h)
      have hnK : n = K := by
        apply Decidable.byContradiction
        exact fun h => hcond (.inr h)
      have hmb : ((m : Int) == 0) = false := by simp [hm0]
      have hnb : ((n : Int) != (K : Int)) = false := by simp [hnK]
      have HS : Hid (SrcB xs m) := .inl ⟨(q2 hcond).1, (q2 hcond).2, by rw [hl, hnK, hK], hc⟩
      obtain ⟨⟨x0, x1⟩, _⟩ := A4
      clear q1 q2 hcond hnK
      obtain ⟨⟨y0, y1, y2⟩, y3⟩ := id A
      have y4 := y3 1
      have y5 := y3 2
      replace y3 := y3 0
      have HP2 := A.put (.int .i64 m) (.slice (some ⟨g, 0, none⟩) n n) (.slice a1 l1 c1)
      have HB9 := below_putT B (Nat.le_refl _) (.int .i64 m) (.slice (some ⟨g, 0, none⟩) n n) (.slice a1 l1 c1)
      have HN9 := hN.kept3 y0 (.int .i64 m) (.slice (some ⟨g, 0, none⟩) n n) (.slice a1 l1 c1)
      have HT9 := hT.kept3 y0 (.int .i64 m) (.slice (some ⟨g, 0, none⟩) n n) (.slice a1 l1 c1)
      clear hN hT
      clear A B
      unfold putT at *
      go_wp2
      clear y0 y1 y2 y3 y4 y5
      generalize World.setCell _ ⟨w.heap.size, 2, none⟩ _ = V at *
      obtain ⟨⟨y0, y1, y2⟩, _⟩ := id HP2
      refine bodyPost_ret (v := .tuple #[.agg #[.int .i64 m, .slice (some ⟨g, 0, none⟩) n n, .slice a1 l1 c1], .bool true]) (by simp [results, Try.results146, go_sem, y0, y1, y2]) rfl ⟨m, HS.out, HB9, .inr ⟨by omega, g, a1, l1, c1, rfl, HN9, HT9⟩⟩
  · have HS : Hid (SrcB xs 0) := .inr ⟨rfl, fun _ _ _ _ => hc⟩
    go_enter Try.func146, Try.ntmps146
    go_upto_region 1 with fail
    generalize w.alloc (.cells _ _) = w1 at A B hx2 ⊢
    go_wp2_with fail
    refine (shares_no a n cap xs w1 hx2 hn hc).mono ?_
    rintro e w2 ⟨rfl, hb⟩
    replace A := A.far hb
    replace B := B.trans (hb.mono B.size)
    clear hb hx2
    have hbA : Below w2.heap.size w2 (w2.alloc (.cells #[.slice none 0 0, .slice none 0 0] 125)) := (Below.refl _ _).alloc (Nat.le_refl _) _
    replace A := A.far hbA
    replace B := B.trans (hbA.mono B.size)
    clear hbA
    go_upto_region 3 with fail
    generalize w2.alloc (.cells _ _) = w3 at A B ⊢
    obtain ⟨⟨y0, y1, y2⟩, y3⟩ := id A
    have y4 := y3 1
    have y5 := y3 2
    replace y3 := y3 0
    have HP2 := A.put (.int .i64 0) (.slice none 0 0) (.slice none 0 0)
    have HB9 := below_putT B (Nat.le_refl _) (.int .i64 0) (.slice none 0 0) (.slice none 0 0)

    clear A B
    unfold putT at *
    go_wp2
    clear y0 y1 y2 y3 y4 y5
    generalize World.setCell _ ⟨w.heap.size, 2, none⟩ _ = V at *
    obtain ⟨⟨y0, y1, y2⟩, _⟩ := id HP2
    refine bodyPost_ret (v := .tuple #[.agg #[.int .i64 0, .slice none 0 0, .slice none 0 0], .bool false]) (by simp [results, Try.results146, go_sem, y0, y1, y2]) rfl ⟨0, HS.out, HB9, .inl ⟨rfl, rfl⟩⟩
theorem isSrc_any (a : Option Addr) (n cap : Nat) (xs : List (Int × Int)) (w : World) (hx : FIn w a n xs) (hn : n ≤ 1048576) :
    Calls Try.prog 90 #[.slice a n cap] w fun e w' => ∃ m : Nat, e = .returned (.bool (decide (0 < m))) ∧ SrcB xs m ∧ Below w.heap.size w w' := by
  have HX := Lib.hid (source_any a n cap xs w hx hn)
  clear hx
  go_enter Try.func90, Try.ntmps90
  go_wp2_with fail
  refine (HX.out).mono ?_
  rintro e w1 ⟨m, hm, hb, ⟨rfl, rfl⟩ | ⟨h0, g, a1, l1, c1, rfl, _, _⟩⟩
  · have HM := Lib.hid hm
    clear hm
    go_wp2
    go_ret
    exact ⟨0, rfl, HM.out, hb.alloc hb.size _⟩
  · have HM := Lib.hid hm
    clear hm
    go_wp2
    go_ret
    exact ⟨m, by rw [decide_eq_true h0]; rfl, HM.out, hb.alloc hb.size _⟩
end Go.Proofs.Ytmnnpkmjamhmcab
