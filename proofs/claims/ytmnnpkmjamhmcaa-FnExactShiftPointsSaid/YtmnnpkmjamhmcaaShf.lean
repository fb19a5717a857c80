/- Shifted points: slices.Clone, impl.ShiftPoints, spec.ShiftPoints, the law. -/
import Derived.Test.YtmnnpkmjamhmcaaSSc
import Derived.Test.YtmnnpkmjamhmcaaPtA
import Derived.Lib.SliceRun
namespace Go.Proofs.Ytmnnpkmjamhmcaa
open Go.RowKit Go.PlainAid
set_option maxHeartbeats 1600000
set_option maxRecDepth 20000

theorem Rw.emptyR (w : World) : Rw w.heap.size w.heap.size 0 0 [] (w.alloc (.cells #[] 2)) := ownsRow_empty w 2 1
theorem Rw.appsR {B g n m k cap : Nat} {xs ys zs : List Int} {wr w1 : World} {v1 : Value} (hk : n + m = k) (hzs : xs ++ ys = zs) (hown : w1.ownsRow B 2 1 v1 (n + m) (xs.map (Value.int .i64) ++ ys.map (Value.int .i64))) (hg : wr.grownBy w1 (Value.slice (some ⟨g, 0, none⟩) n cap).ownBlock) (hnil : v1 = .slice none 0 0 ↔ Value.slice (some ⟨g, 0, none⟩) n cap = .slice none 0 0 ∧ m = 0) (hat : v1.ownBlock = (Value.slice (some ⟨g, 0, none⟩) n cap).ownBlock ∨ v1.ownBlock = some wr.heap.size) :
    ∃ g1 cap1, v1 = .slice (some ⟨g1, 0, none⟩) k cap1 ∧ Rw B g1 k cap1 zs w1 ∧ (g1 = g ∨ g1 = wr.heap.size) ∧ wr.grownBy w1 (some g) := by
  subst hk hzs
  have hk := hown
  obtain ⟨hlen, ⟨h, _⟩ | ⟨g', cap', cur, rfl, hr⟩⟩ := hown
  · have := (hnil.1 h).1
    cases this
  · refine ⟨g', cap', rfl, ?_, ?_, hg⟩
    · unfold Rw
      rw [List.map_append]
      exact hk
    · simpa [Value.ownBlock] using hat
theorem ints_oneR (l : List Int) : ∀ u ∈ l.map (Value.int .i64), u.oneCell' = true := by
  intro u hu
  obtain ⟨x, _, rfl⟩ := List.mem_map.1 hu
  rfl
theorem RO.newsR {top : Nat} {W : World} {g off : Nat} {xs : List Int} (h : RO top W (some ⟨g, off, none⟩) xs) : ∀ j u, (xs.map (Value.int .i64))[j]? = some u → W.cell? ((⟨g, off, none⟩ : Addr).add j) = some u := by
  intro j u hj
  rw [List.getElem?_map] at hj
  obtain ⟨x, hx, rfl⟩ := Option.map_eq_some_iff.1 hj
  obtain ⟨g', off', e, _, hc⟩ := h j x hx
  cases e
  rw [Go.WideShapes.add_plain]
  exact hc
theorem cloneR_any (a : Option Addr) (n c : Nat) (xs : List Int) (w : World) (h : RO w.heap.size w a xs) (hn : xs.length = n) (h1 : 1 ≤ n) (hl : n ≤ 1048576) :
    Calls Try.prog 75 #[.slice a n c] w fun e w' => ∃ g1 c1, e = .returned (.slice (some ⟨g1, 0, none⟩) n c1) ∧ Rw w.heap.size g1 n c1 xs w' ∧ Below w.heap.size w w' := by
  obtain ⟨i0, hi, hz0, hz1, hz2⟩ := info_parts Try.info2
  obtain ⟨x0, hx0⟩ : ∃ x, xs[0]? = some x := ⟨_, List.getElem?_eq_getElem (by omega)⟩
  obtain ⟨g, off, rfl, _, _⟩ := h 0 x0 hx0
  have HN : Hid (∀ j u, (xs.map (Value.int .i64))[j]? = some u → (w.alloc (.cells #[] 2)).cell? ((⟨g, off, none⟩ : Addr).add j) = some u) := RO.newsR ((h.below ((Below.refl _ _).alloc (Nat.le_refl _) _)).up (Nat.le_refl _))
  have HL : Hid ((xs.map (Value.int .i64)).length = n * 1) := by unfold Hid; rw [List.length_map]; omega
  have hnl := fun W => Go.Lib.run_eql_slice_nil (P := Try.prog) W 35 2 (some ⟨g, off, none⟩) n c 0 0 (by kernel_rfl)
  clear h hx0
  go_enter Try.func75, Try.ntmps75
  go_wp2_with (at_builtin; refine wpList_append_own_at _ rfl _ _ 35 rfl w.heap.size 2 i0 (.int .i64 0) 1 8 Try.underlying35 hi hz0 hz1 hz2 rfl (by decide) _ _ _ rfl (Rw.emptyR w) ⟨g, off, none⟩ n c (xs.map (Value.int .i64)) rfl HL.out HN.out (ints_oneR _) (by unfold maxLen; omega) (by omega) (by simp) ?_; intro v1 w1 hown1 hgrow1 hnil1 hat1)
  obtain ⟨g1, cap1, rfl, hr1, hg1, hgr⟩ := Rw.appsR (Nat.zero_add n) (List.nil_append _) hown1 hgrow1 hnil1 hat1
  have HR := Lib.hid hr1
  have HB : Hid (Below w.heap.size w w1) := ((Below.refl w.heap.size w).alloc (Nat.le_refl _) _).grown hgr (by simp) (fun q e => by cases e; exact Nat.le_refl _)
  clear hown1 hgrow1 hnil1 hat1 hr1 hgr hg1
  go_wp2
  go_ret
  exact ⟨_, _, rfl, HR.out, HB.out⟩
/-- the first numbers of a shifted point -/
def sx (p by' : List Int) : Nat → List Int
  | 0 => []
  | k + 1 => sx p by' k ++ [bits .xor .i64 (p.getD k 0) (by'.getD k 0)]
theorem sx_length (p q : List Int) (k : Nat) : (sx p q k).length = k := by
  induction k with
  | zero => rfl
  | succ k ih => simp [sx, ih]
/-- a point under way: the first numbers are shifted -/
def sxm (p q : List Int) (k : Nat) : List Int := sx p q k ++ p.drop k
theorem sxm_zero (p q : List Int) : sxm p q 0 = p := rfl
theorem sxm_full (p q : List Int) {k : Nat} (h : p.length = k) : sxm p q k = sx p q k := by
  unfold sxm
  rw [List.drop_eq_nil_of_le (by omega), List.append_nil]
theorem sxm_at (p q : List Int) (k : Nat) : (sxm p q k).getD k 0 = p.getD k 0 := by
  unfold sxm
  rw [List.getD_eq_getElem?_getD, List.getElem?_append_right (by rw [sx_length]; omega), sx_length, Nat.sub_self, List.getElem?_drop, Nat.add_zero, ← List.getD_eq_getElem?_getD]
theorem sxm_set (p q : List Int) {k : Nat} (h : k < p.length) : (sxm p q k).set k (bits .xor .i64 (p.getD k 0) (q.getD k 0)) = sxm p q (k + 1) := by
  unfold sxm
  rw [List.set_append, if_neg (by rw [sx_length]; omega), sx_length, Nat.sub_self, List.drop_eq_getElem_cons h, List.set_cons_zero, sx, List.append_assoc]
  rfl
theorem sxm_length (p q : List Int) {k : Nat} (h : k ≤ p.length) : (sxm p q k).length = p.length := by
  unfold sxm
  rw [List.length_append, sx_length, List.length_drop]
  omega
/-- what is asked of points and changes -/
def ShP (m : Nat) (f : Nat → List Int) (b : Int) (n : Nat) (xs : List Int) : Prop := PtsP m f b ∧ n = (f 0).length ∧ ∀ (i : Nat) (c : Int), xs[i]? = some c → 0 ≤ c ∧ c ≤ mx b
/-- one row of those that are put is changed at one place -/
theorem PW.setRow {g m L c n k : Nat} {us : Nat → Value} {f : Nat → List Int} {d : Nat} {w wr : World} {g1 : Nat} {x : Int} {f' : Nat → List Int} (h : PW g m us f L w wr) (hd : d < L) (hdm : d < m) (hu : us d = .slice (some ⟨g1, 0, none⟩) n c) (hf : f' d = (f d).set k x) (hk : k < (f d).length) (hf2 : ∀ e, e ≠ d → f' e = f e) : PW g m us f' L w (wr.setCell ⟨g1, k, none⟩ (.int .i64 x)) := by
  obtain ⟨⟨h0, h1⟩, h2, h3, h4, h5, h6⟩ := h
  have hz : (wr.setCell ⟨g1, k, none⟩ (.int .i64 x)).heap.size = wr.heap.size := by simp [World.setCell]
  have hin := (h5 d hd hdm).in g1 (by rw [hu]; rfl)
  refine ⟨⟨h0, by omega⟩, h2.setCell (p := ⟨g1, k, none⟩) (by show w.heap.size ≤ g1; omega) _, fun e he => ?_, fun e => by rw [World.frozen?_setCell]; exact h4 e, fun e he hem => ?_, h6⟩
  · rw [cell_otherD (addr_neD (by omega))]
    exact h3 e he
  · rw [hz]
    by_cases e1 : e = d
    · subst e1
      rw [hf]
      have hs := h5 e hd hdm
      rw [hu] at hs ⊢
      rcases hs with ⟨hs, _⟩ | ⟨g2, cap, hs, k1, k2, k3, k4, k5⟩
      · cases hs
      · injection hs with ha hn hc
        injection ha with ha
        injection ha with ha
        subst ha hc
        refine .inr ⟨g1, c, by rw [List.length_set, hn], by rw [List.length_set]; exact k1, k2, k3, fun i hi => ?_, fun i => by simp only [World.frozen?_setCell]; exact k5 i⟩
        rw [List.length_set] at hi
        by_cases e2 : k = i
        · subst e2
          rw [World.cell?_setCell_same wr _ _ (k4 k hi), List.getElem_set_self]
        · rw [cell_otherD (addr_neD (by omega)), k4 i hi, List.getElem_set_ne e2]
    · rw [hf2 e e1]
      have hs := h5 e he hem
      rcases hs with hs | ⟨g2, cap, hs, k1, k2, k3, k4, k5⟩
      · exact .inl hs
      · have hne : g2 ≠ g1 := by
          intro e3
          rcases h6 e d he hd e1 with h7 | h7
          · rw [hs] at h7; simp [Value.ownBlock] at h7
          · rw [hs, hu] at h7; simp [Value.ownBlock] at h7; exact h7 e3
        exact .inr ⟨g2, cap, hs, k1, k2, k3, fun i hi => by rw [cell_otherD (addr_neD (by omega))]; exact k4 i hi, fun i => by simp only [World.frozen?_setCell]; exact k5 i⟩
theorem PW.congr {g m L : Nat} {us : Nat → Value} {f f' : Nat → List Int} {w wr : World} (h : PW g m us f L w wr) (hf : ∀ d, d < L → f' d = f d) : PW g m us f' L w wr := by
  obtain ⟨h0, h2, h3, h4, h5, h6⟩ := h
  exact ⟨h0, h2, h3, h4, fun d hd hm => by rw [hf d hd]; exact h5 d hd hm, h6⟩
/-- all rows shifted but one, of which so many numbers are -/
def fmx (f : Nat → List Int) (xs : List Int) (n d k : Nat) : Nat → List Int := fun e => if e = d then sxm (f d) xs k else sx (f e) xs n
theorem fmx_same (f : Nat → List Int) (xs : List Int) (n d k : Nat) : fmx f xs n d k d = sxm (f d) xs k := by simp [fmx]
theorem fmx_ne (f : Nat → List Int) (xs : List Int) (n : Nat) {d e : Nat} (k : Nat) (h : e ≠ d) : fmx f xs n d k e = sx (f e) xs n := by simp [fmx, h]
theorem shift_yes (a : Option Addr) (m cap : Nat) (f : Nat → List Int) (b : Int) (a2 : Option Addr) (n cap2 : Nat) (xs : List Int) (w : World) (h : RR w.heap.size w a m f) (hl : m + szl f m ≤ 1048576) (h2 : RO w.heap.size w a2 xs) (hn : xs.length = n) (hP : ShP m f b n xs) :
    Calls Try.prog 35 #[.slice a m cap, .int .i64 b, .slice a2 n cap2] w fun e w' => ∃ v, e = .returned (.tuple #[v, .bool true]) ∧ LW w.heap.size w'.heap.size w' v m (fun d => sx (f d) xs n) ∧ Below w.heap.size w w' := by
  obtain ⟨i0, hi, hz0, hz1, hz2⟩ := info_parts Try.info35
  have HR := Lib.hid h
  have HR2 := Lib.hid h2
  have HN := Lib.hid hn
  have HP := Lib.hid hP
  obtain ⟨⟨hb, hm, hsd, hrow⟩, hnf, hcut⟩ := hP
  have HPT : Hid (∀ W : World, W = w → Calls Try.prog 23 #[.slice a m cap, .int .i64 b] W fun e w' => e = .returned (.bool true) ∧ W = w') := fun W hW => by
    subst hW
    exact isPts_any a m cap f b W HR.out hl true (by simp; exact HP.out.1)
  have HO : Hid (∀ W, Calls Try.prog 66 #[.int .i64 b] W fun e w' => e = .returned (.int .i64 (mx b)) ∧ W = w') := ones10_any b hb
  have hn4 : n ≤ 4 := by omega
  have hn1 : 1 ≤ n := by omega
  have HAB : Hid (∀ W : World, W = w → Calls Try.prog 65 #[.slice a2 n cap2, .int .i64 0, .int .i64 (mx b)] W fun e w' => e = .returned (.bool true) ∧ W = w') := fun W hW => by
    subst hW
    exact areB_any a2 n cap2 xs 0 (mx b) W HR2.out HN.out (by omega) true (by simp; exact hcut)
  obtain ⟨g, off, rfl, hg, hrows⟩ := HR.out.get (by omega)
  obtain ⟨b0, c0, hc0, _, _⟩ := hrows 0 (by omega)
  rw [← hnf, Nat.add_zero] at hc0
  have HRW : Hid (∀ d, d < m → (f d).length = n ∧ ∃ bd cd, w.cell? ⟨g, off + d, none⟩ = some (.slice bd n cd) ∧ RO w.heap.size w bd (f d)) := fun d hd => by
    obtain ⟨bd, cd, h1, _, h3⟩ := hrows d hd
    rw [(hrow d hd).1, ← hnf] at h1
    exact ⟨by rw [(hrow d hd).1, hnf], bd, cd, h1, h3⟩
  have hne : ((n : Int) != (n : Int)) = false := by simp
  have hm1 := hm.1
  have hm2 := hm.2
  clear h h2 hn hl hb hm hsd hrow hnf hcut hrows
  go_enter Try.func35, Try.ntmps35
  go_wp2_with (first | (go_at_call 23; with_reducible refine (HPT.out _ rfl).mono ?_; rintro e w1 ⟨rfl, rfl⟩) | (go_at_call 66; with_reducible refine (HO.out _).mono ?_; rintro e w1 ⟨rfl, rfl⟩) | (go_at_call 65; with_reducible refine (HAB.out _ rfl).mono ?_; rintro e w1 ⟨rfl, rfl⟩) | (at_make; refine wpList_make_full _ rfl _ _ 22 rfl w.heap.size 35 i0 _ 1 Try.underlying22 hi hz0 hz1 _ _ _ _ m rfl rfl rfl rfl (by rw [hz2]; omega) (by unfold maxLen; omega) (Nat.le_refl _) ?_; intro w3 hown hgrow))
  have HP3 := Lib.hid (PW.made (f := fun d => sx (f d) xs n) hown (by simpa using hown.1) ((Below.refl w.heap.size w).grown hgrow (Nat.le_refl _) (by simp)) (own_lt hown))
  clear hown hgrow hc0
  go_loopw [38] (fun iv wr => ∃ (j : Nat) (us : Nat → Value), j ≤ m ∧ iv = .int .i64 j ∧ Hid (PW w.heap.size m us (fun d => sx (f d) xs n) j w wr)) (fun iv _ => m - (intOf iv).toNat)
  case atStart => exact ⟨0, _, Nat.zero_le _, rfl, HP3⟩
  case round =>
    obtain ⟨j, us, hj, rfl, HPr⟩ := hrel
    clear HP3
    by_cases hlt : j < m
    · obtain ⟨hlen, bd, cd, hcd, hrd⟩ := HRW.out j hlt
      have HLEN := Lib.hid hlen
      replace hcd := (HPr.out.2.1.cell (p := ⟨g, off + j, none⟩) hg).trans hcd
      have HCL := Lib.hid (cloneR_any bd n cd (f j) wr ((hrd.below HPr.out.2.1).up HPr.out.2.1.size) hlen hn1 (by omega))
      clear hrd hlen
      go_wp2_with fail
      refine HCL.out.mono ?_
      rintro e W1 ⟨g1, c1, rfl, hr, hb⟩
      have HP1 := Lib.hid (HPr.out.far hb)
      have hf := HP1.out.2.2.2.1 j
      have hcj := HP1.out.2.2.1 j hlt
      have HPn : Hid (PW w.heap.size m (updV us j (.slice (some ⟨g1, 0, none⟩) n c1)) (fmx f xs n j 0) (j + 1) w (W1.setCell ⟨w.heap.size, j, none⟩ (.slice (some ⟨g1, 0, none⟩) n c1))) := by
        have h9 : PW w.heap.size m us (fmx f xs n j 0) j w W1 := HP1.out.congr fun d hd => fmx_ne f xs n 0 (by omega)
        refine h9.put hlt ?_ HPr.out.1.2 (fun d h1 h2 => ?_)
        · rw [fmx_same, sxm_zero]
          exact hr.sl
        · rw [fmx_ne f xs n 0 (by omega)]
          exact (HPr.out.2.2.2.2.1 d h1 h2).below hb
      obtain ⟨us2, hus2⟩ : ∃ us2, updV us j (.slice (some ⟨g1, 0, none⟩) n c1) = us2 := ⟨_, rfl⟩
      have HUS : Hid (us2 j = .slice (some ⟨g1, 0, none⟩) n c1) := by unfold Hid; rw [← hus2, updV_same]
      rw [hus2] at HPn
      clear hr hb HPr HP1 HCL hus2
      go_wp2
      go_loopw [50] (fun iv wr => ∃ k : Nat, k ≤ n ∧ iv = .int .i64 k ∧ Hid (PW w.heap.size m us2 (fmx f xs n j k) (j + 1) w wr)) (fun iv _ => n - (intOf iv).toNat)
      case atStart => exact ⟨0, Nat.zero_le _, rfl, HPn⟩
      case round =>
        obtain ⟨k, hk, rfl, HK⟩ := hrel
        clear HPn hcd hf hcj
        by_cases hlt2 : k < n
        · obtain ⟨x, hx⟩ : ∃ x, xs[k]? = some x := ⟨_, List.getElem?_eq_getElem (by have := HN.out; omega)⟩
          obtain ⟨g2, o2, rfl, hg2, hc2⟩ := HR2.out k x hx
          replace hc2 := (HK.out.2.1.cell (p := ⟨g2, o2 + k, none⟩) hg2).trans hc2
          have hcj := HK.out.2.2.1 j hlt
          rw [HUS.out] at hcj
          have hs := HK.out.2.2.2.2.1 j (by omega) hlt
          rw [HUS.out, fmx_same] at hs
          obtain ⟨hc3, hf3⟩ : wr.cell? ⟨g1, k, none⟩ = some (.int .i64 ((f j).getD k 0)) ∧ wr.frozen? ⟨g1, k, none⟩ = false := by
            rcases hs with ⟨hs, _⟩ | ⟨g3, cap3, hs, k1, k2, k3, k4, k5⟩
            · cases hs
            · injection hs with ha _ _
              injection ha with ha
              injection ha with ha
              subst ha
              have hkl : k < (sxm (f j) xs k).length := by rw [sxm_length _ _ (by have := HLEN.out; omega), HLEN.out]; exact hlt2
              refine ⟨?_, k5 k⟩
              rw [k4 k hkl, ← sxm_at (f j) xs k, List.getD_eq_getElem?_getD, List.getElem?_eq_getElem hkl]
              rfl
          have HY : Hid (xs.getD k 0 = x) := by unfold Hid; rw [List.getD_eq_getElem?_getD, hx]; rfl
          have HPn2 : Hid (PW w.heap.size m us2 (fmx f xs n j (k + 1)) (j + 1) w (wr.setCell ⟨g1, k, none⟩ (.int .i64 (bits .xor .i64 ((f j).getD k 0) x)))) := by
            refine HK.out.setRow (d := j) (by omega) hlt HUS.out ?_ ?_ (fun e he => ?_)
            · rw [fmx_same, fmx_same, ← HY.out, sxm_set _ _ (by have := HLEN.out; omega)]
            · rw [fmx_same, sxm_length _ _ (by have := HLEN.out; omega), HLEN.out]; exact hlt2
            · rw [fmx_ne _ _ _ _ he, fmx_ne _ _ _ _ he]
          generalize (f j).getD k 0 = y at hc3 HPn2
          clear hx hs HY HK
          go_wp2
          go_roundw
          case rel => exact ⟨k + 1, by omega, by go_num, HPn2⟩
          case measure => simp [intOf]; omega
        · obtain rfl : k = n := by omega
          have HPe : Hid (PW w.heap.size m us2 (fun d => sx (f d) xs k) (j + 1) w wr) := HK.out.congr fun d hd => by
            by_cases e : d = j
            · subst e
              rw [fmx_same, sxm_full _ _ HLEN.out]
            · rw [fmx_ne _ _ _ _ e]
          clear HK
          go_wp2
          go_roundw
          case rel => exact ⟨j + 1, us2, by omega, by go_num, HPe⟩
          case measure => simp [intOf]; omega
    · obtain rfl : j = m := by omega
      go_wp2
      go_ret2
      exact ⟨_, rfl, HPr.out.lw (Nat.le_refl _), HPr.out.2.1⟩
theorem shift_no (a : Option Addr) (m cap : Nat) (f : Nat → List Int) (b : Int) (a2 : Option Addr) (n cap2 : Nat) (xs : List Int) (w : World) (h : RR w.heap.size w a m f) (hl : m + szl f m ≤ 1048576) (h2 : RO w.heap.size w a2 xs) (hn : xs.length = n) (hn2 : n ≤ 1048576) (hP : ¬ ShP m f b n xs) :
    Calls Try.prog 35 #[.slice a m cap, .int .i64 b, .slice a2 n cap2] w fun e w' => e = .returned (.tuple #[.slice none 0 0, .bool false]) ∧ w = w' := by
  have HR := Lib.hid h
  have HR2 := Lib.hid h2
  have HN := Lib.hid hn
  have HP := Lib.hid hP
  clear h h2 hn
  by_cases hpt : PtsP m f b
  rotate_left
  · have HPT : Hid (∀ W : World, W = w → Calls Try.prog 23 #[.slice a m cap, .int .i64 b] W fun e w' => e = .returned (.bool false) ∧ W = w') := fun W hW => by
      subst hW
      exact isPts_any a m cap f b W HR.out hl false (by simp [hpt])
    clear hpt hP hl
    go_enter Try.func35, Try.ntmps35
    go_wp2_with (go_at_call 23; with_reducible refine (HPT.out _ rfl).mono ?_; rintro e w1 ⟨rfl, rfl⟩)
    go_ret2
    exact ⟨rfl, rfl⟩
  have HPT : Hid (∀ W : World, W = w → Calls Try.prog 23 #[.slice a m cap, .int .i64 b] W fun e w' => e = .returned (.bool true) ∧ W = w') := fun W hW => by
    subst hW
    exact isPts_any a m cap f b W HR.out hl true (by simp [hpt])
  have HPP := Lib.hid hpt
  obtain ⟨hb, hm, hsd, hrow⟩ := hpt
  have hm1 := hm.1
  have HO : Hid (∀ W, Calls Try.prog 66 #[.int .i64 b] W fun e w' => e = .returned (.int .i64 (mx b)) ∧ W = w') := ones10_any b hb
  obtain ⟨g, off, rfl, hg, hrows⟩ := HR.out.get (by omega)
  obtain ⟨b0, c0, hc0, _, _⟩ := hrows 0 (by omega)
  obtain ⟨n0, hn0⟩ : ∃ n0, (f 0).length = n0 := ⟨_, rfl⟩
  have HN0 := Lib.hid hn0
  rw [hn0, Nat.add_zero] at hc0
  rw [hn0] at hsd
  clear hrows hrow hn0
  by_cases he : n = n0
  rotate_left
  · have hne : ((n : Int) != (n0 : Int)) = true := by simp; omega
    clear hP hl he hb hm hsd
    go_enter Try.func35, Try.ntmps35
    go_wp2_with (go_at_call 23; with_reducible refine (HPT.out _ rfl).mono ?_; rintro e w1 ⟨rfl, rfl⟩)
    go_ret2
    exact ⟨rfl, rfl⟩
  subst he
  have hne : ((n : Int) != (n : Int)) = false := by simp
  have hcut : ¬ ∀ (i : Nat) (c : Int), xs[i]? = some c → 0 ≤ c ∧ c ≤ mx b := fun hc => HP.out ⟨HPP.out, HN0.out.symm, hc⟩
  have HAB : Hid (∀ W : World, W = w → Calls Try.prog 65 #[.slice a2 n cap2, .int .i64 0, .int .i64 (mx b)] W fun e w' => e = .returned (.bool false) ∧ W = w') := fun W hW => by
    subst hW
    exact areB_any a2 n cap2 xs 0 (mx b) W HR2.out HN.out (by omega) false ⟨fun e => (by cases e), fun e => absurd e hcut⟩
  clear hP hl hb hm hcut
  go_enter Try.func35, Try.ntmps35
  go_wp2_with (first | (go_at_call 23; with_reducible refine (HPT.out _ rfl).mono ?_; rintro e w1 ⟨rfl, rfl⟩) | (go_at_call 66; with_reducible refine (HO.out _).mono ?_; rintro e w1 ⟨rfl, rfl⟩) | (go_at_call 65; with_reducible refine (HAB.out _ rfl).mono ?_; rintro e w1 ⟨rfl, rfl⟩))
  go_ret2
  exact ⟨rfl, rfl⟩
theorem specShift_any (a : Option Addr) (m cap : Nat) (f : Nat → List Int) (b : Int) (a2 : Option Addr) (n cap2 : Nat) (xs : List Int) (w : World) (h : RR w.heap.size w a m f) (hl : m + szl f m ≤ 1048576) (h2 : RO w.heap.size w a2 xs) (hn : xs.length = n) (hn2 : n ≤ 1048576) :
    Calls Try.prog 34 #[.slice a m cap, .int .i64 b, .slice a2 n cap2] w fun e w' => ((ShP m f b n xs ∧ ∃ p q, e = .returned (.tuple #[.slice p m q, .bool true]) ∧ RR w'.heap.size w' p m (fun d => sx (f d) xs n)) ∨ (¬ ShP m f b n xs ∧ e = .returned (.tuple #[.slice none 0 0, .bool false]))) ∧ Below w.heap.size w w' := by
  obtain ⟨i0, hi, hz0, hz1, hz2⟩ := info_parts Try.info2
  obtain ⟨i1, hi1, hy0, hy1, hy2⟩ := info_parts Try.info35
  have HR := Lib.hid h
  have HR2 := Lib.hid h2
  have HN := Lib.hid hn
  clear h h2 hn
  by_cases hpt : PtsP m f b
  rotate_left
  · have HPT : Hid (∀ W : World, W = w → Calls Try.prog 68 #[.slice a m cap, .int .i64 b] W fun e w' => e = .returned (.bool false) ∧ Below W.heap.size W w') := fun W hW => by
      subst hW
      exact l10List_any a m cap f b W HR.out hl false (by simp [hpt])
    have HNO : Hid (¬ ShP m f b n xs) := fun h => hpt h.1
    clear hpt hl
    go_enter Try.func34, Try.ntmps34
    go_wp2_with (go_at_call 68; with_reducible refine (HPT.out _ rfl).mono ?_; rintro e w1 ⟨rfl, hb⟩)
    go_ret2
    exact ⟨.inr ⟨HNO.out, rfl⟩, hb⟩
  have HPT : Hid (∀ W : World, W = w → Calls Try.prog 68 #[.slice a m cap, .int .i64 b] W fun e w' => e = .returned (.bool true) ∧ Below W.heap.size W w') := fun W hW => by
    subst hW
    exact l10List_any a m cap f b W HR.out hl true (by simp [hpt])
  have HPP := Lib.hid hpt
  obtain ⟨hb, hm, hsd, hrow⟩ := hpt
  have hm1 := hm.1
  have hm2 := hm.2
  obtain ⟨g, off, rfl, hg, hrows⟩ := HR.out.get (by omega)
  obtain ⟨b0, c0, hc0, _, _⟩ := hrows 0 (by omega)
  obtain ⟨n0, hn0⟩ : ∃ n0, (f 0).length = n0 := ⟨_, rfl⟩
  have HN0 := Lib.hid hn0
  rw [hn0, Nat.add_zero] at hc0
  rw [hn0] at hsd
  have HC0 := Lib.hid hc0
  have HRW : Hid (∀ d, d < m → (f d).length = n0 ∧ ∃ bd cd, w.cell? ⟨g, off + d, none⟩ = some (.slice bd n0 cd) ∧ RO w.heap.size w bd (f d)) := fun d hd => by
    obtain ⟨bd, cd, h1, _, h3⟩ := hrows d hd
    rw [(hrow d hd).1, hn0] at h1
    exact ⟨by rw [(hrow d hd).1, hn0], bd, cd, h1, h3⟩
  clear hrows hrow hn0 hc0
  by_cases he : n = n0
  rotate_left
  · have hne : ((n : Int) != (n0 : Int)) = true := by simp; omega
    have HNO : Hid (¬ ShP m f b n xs) := fun h => he (by rw [h.2.1, HN0.out])
    clear hl he hb hm hsd
    go_enter Try.func34, Try.ntmps34
    go_wp2_with (go_at_call 68; with_reducible refine (HPT.out _ rfl).mono ?_; rintro e w1 ⟨rfl, hb⟩; have hc1 := (hb.cell (p := ⟨g, off, none⟩) hg).trans HC0.out)
    go_ret2
    exact ⟨.inr ⟨HNO.out, rfl⟩, hb⟩
  subst he
  have hne : ((n : Int) != (n : Int)) = false := by simp
  have HBB := Lib.hid hb
  have hn4 : n ≤ 4 := by omega
  clear hl hm hb hsd
  go_enter Try.func34, Try.ntmps34
  go_wp2_with (go_at_call 68; with_reducible refine (HPT.out _ rfl).mono ?_; rintro e w1 ⟨rfl, hb⟩; have hc1 := (hb.cell (p := ⟨g, off, none⟩) hg).trans HC0.out)
  have HB := Lib.hid hb
  have hz1w := hb.size
  clear hb
  go_loop [8] (fun iv => ∃ k : Nat, k ≤ n ∧ iv = .int .i64 k ∧ Hid (∀ (i : Nat) (c : Int), i < k → xs[i]? = some c → 0 ≤ c ∧ c ≤ mx b)) (fun iv => n - (intOf iv).toNat)
  case atStart => exact ⟨0, Nat.zero_le _, rfl, fun i c h => by omega⟩
  case round =>
    obtain ⟨k, hk, rfl, HK⟩ := hrel
    by_cases hlt : k < n
    · obtain ⟨c, hc⟩ : ∃ c, xs[k]? = some c := ⟨_, List.getElem?_eq_getElem (by have := HN.out; omega)⟩
      have HCC := Lib.hid hc
      obtain ⟨g2, o2, rfl, hg2, hc2⟩ := HR2.out k c hc
      replace hc2 := (HB.out.cell (p := ⟨g2, o2 + k, none⟩) hg2).trans hc2
      clear hc
      by_cases hin : 0 ≤ c ∧ c ≤ mx b
      · have HI : Hid (∀ W, Calls Try.prog 74 #[.int .i64 b, .int .i64 c] W fun e w' => e = .returned (.bool true) ∧ W = w') := st10_any b c true HBB.out (decide_eq_true hin)
        have HIN := Lib.hid hin
        clear hin
        go_wp2_with (go_at_call 74; with_reducible refine (HI.out _).mono ?_; rintro e w2 ⟨rfl, rfl⟩)
        go_round
        case rel =>
          refine ⟨k + 1, by omega, by go_num, fun i y h1 h2 => ?_⟩
          by_cases e : i = k
          · subst e
            rw [HCC.out] at h2
            cases h2
            exact HIN.out
          · exact HK.out i y (by omega) h2
        case measure => simp [intOf]; omega
      · have HI : Hid (∀ W, Calls Try.prog 74 #[.int .i64 b, .int .i64 c] W fun e w' => e = .returned (.bool false) ∧ W = w') := st10_any b c false HBB.out (decide_eq_false hin)
        have HNO : Hid (¬ ShP m f b n xs) := fun h => hin (h.2.2 k c HCC.out)
        clear hin
        go_wp2_with (go_at_call 74; with_reducible refine (HI.out _).mono ?_; rintro e w2 ⟨rfl, rfl⟩)
        go_ret2
        exact ⟨.inr ⟨HNO.out, rfl⟩, HB.out⟩
    · obtain rfl : k = n := by omega
      have HSP : Hid (ShP m f b k xs) := ⟨HPP.out, HN0.out.symm, fun i c hc => HK.out i c (by have := (List.getElem?_eq_some_iff.1 hc).1; have := HN.out; omega) hc⟩
      have HO := Lib.hid (OA.empty w1 (fun d => sx (f d) xs k))
      clear hc1
      go_wp2
      go_loopw [9, 10] (fun ov iv wr => ∃ (j go co : Nat) (vs : List Value), j ≤ m ∧ iv = .int .i64 j ∧ ov = .slice (some ⟨go, 0, none⟩) j co ∧ Hid (OA w1.heap.size vs go j co (fun d => sx (f d) xs k) w1 wr)) (fun _ iv _ => m - (intOf iv).toNat)
      case atStart => exact ⟨0, _, _, _, Nat.zero_le _, rfl, rfl, HO⟩
      case round =>
        obtain ⟨j, go, co, vs, hj, rfl, rfl, HP⟩ := hrel
        clear HO
        by_cases hlt2 : j < m
        · obtain ⟨hlen, bd, cd, hcd, hrd⟩ := HRW.out j hlt2
          obtain ⟨wo, rfl⟩ : ∃ wo, wo = wr := ⟨_, rfl⟩
          have HBo : Hid (Below w.heap.size w wo) := HB.out.trans (HP.out.2.1.mono hz1w)
          have HRO := Lib.hid (hrd.below HBo.out)
          have hzo := HBo.out.size
          replace hcd := (HBo.out.cell (p := ⟨g, off + j, none⟩) hg).trans hcd
          have HCD := Lib.hid hcd
          have HRw0 : Hid (Rw wo.heap.size wo.heap.size 0 0 (sx (f j) xs 0) (wo.alloc (.cells #[] 2))) := Rw.emptyR wo
          have HB0 : Hid (Below wo.heap.size wo (wo.alloc (.cells #[] 2))) := (Below.refl _ _).alloc (Nat.le_refl _) _
          have HLEN := Lib.hid hlen
          clear hrd hcd hlen
          go_wp2
          go_loopw [11, 12] (fun pv iv wr => ∃ (i gp cp : Nat), i ≤ k ∧ iv = .int .i64 i ∧ pv = .slice (some ⟨gp, 0, none⟩) i cp ∧ Hid (Rw wo.heap.size gp i cp (sx (f j) xs i) wr) ∧ Hid (Below wo.heap.size wo wr)) (fun _ iv _ => k - (intOf iv).toNat)
          case atStart => exact ⟨0, _, _, Nat.zero_le _, rfl, rfl, HRw0, HB0⟩
          case round =>
            obtain ⟨i, gp, cp, hi3, rfl, rfl, HRp, HBp⟩ := hrel
            clear HRw0 HB0
            by_cases hlt3 : i < k
            · obtain ⟨x, hx⟩ : ∃ x, xs[i]? = some x := ⟨_, List.getElem?_eq_getElem (by have := HN.out; omega)⟩
              obtain ⟨g2, o2, rfl, hg2, hc2⟩ := HR2.out i x hx
              replace hc2 := (HBp.out.cell (p := ⟨g2, o2 + i, none⟩) (Nat.lt_of_lt_of_le hg2 hzo)).trans ((HBo.out.cell (p := ⟨g2, o2 + i, none⟩) hg2).trans hc2)
              obtain ⟨y, hy⟩ : ∃ y, (f j)[i]? = some y := ⟨_, List.getElem?_eq_getElem (by have := HLEN.out; omega)⟩
              obtain ⟨g3, o3, rfl, hg3, hc3⟩ := HRO.out i y hy
              replace hc3 := (HBp.out.cell (p := ⟨g3, o3 + i, none⟩) (Nat.lt_of_lt_of_le hg3 hzo)).trans hc3
              have hcd := (HBp.out.cell (p := ⟨g, off + j, none⟩) (Nat.lt_of_lt_of_le hg hzo)).trans HCD.out
              have hge := HRp.out.le
              have q0 : ∀ q : GR wr.drew (some gp), q.w.cell? ⟨g, off + j, none⟩ = some (.slice (some ⟨g3, o3, none⟩) k cd) := fun q => (World.cell?_of_block (a := ⟨g, off + j, none⟩) (q.h.block g (World.block_lt_of_cell? wr _ hcd) (fun e => by have := Option.some.inj e; omega))).trans hcd
              have q1 : ∀ q : GR wr.drew (some gp), q.w.cell? ⟨g3, o3 + i, none⟩ = some (.int .i64 y) := fun q => (World.cell?_of_block (a := ⟨g3, o3 + i, none⟩) (q.h.block g3 (World.block_lt_of_cell? wr _ hc3) (fun e => by have := Option.some.inj e; omega))).trans hc3
              have q2 : ∀ q : GR wr.drew (some gp), q.w.cell? ⟨g2, o2 + i, none⟩ = some (.int .i64 x) := fun q => (World.cell?_of_block (a := ⟨g2, o2 + i, none⟩) (q.h.block g2 (World.block_lt_of_cell? wr _ hc2) (fun e => by have := Option.some.inj e; omega))).trans hc2
              obtain ⟨z, hz⟩ : ∃ z, bits .xor .i64 y x = z := ⟨_, rfl⟩
              have HS : Hid (sx (f j) xs (i + 1) = sx (f j) xs i ++ [z]) := by
                unfold Hid
                rw [sx, List.getD_eq_getElem?_getD, List.getD_eq_getElem?_getD, hx, hy, ← hz]
                rfl
              have hzB := HBp.out.size
              have HZZ := Lib.hid hz
              clear hx hy hc2 hc3 hcd hz
              go_wp2
              refine wp_region_mix (some gp) [0, 1, 2, 3, 4, 5, 6, 7, 8, 9, 10, 11, 12] [13, 14, 15] (by kernel_rfl) (by kernel_rfl) ?_
              simp only [pickOps, List.filterMap_cons, List.filterMap_nil, List.getElem?_toArray, List.getElem?_cons_succ, List.getElem?_cons_zero]
              repeat (refine wpQuietG_step (fun K hK => ?_); go_simp; first | (refine hK _ ?_; clear hK K) | (apply Exists.intro; refine ⟨fun _ => ?_, hK _ ?_⟩; (fail); clear hK K))
              refine wpQuietG_nil ?_
              rw [HZZ.out]
              clear q0 q1 q2
              intro V1 hG hb
              replace HRp := Lib.hid (HRp.out.far (of_drew hb))
              replace HBp := Lib.hid (HBp.out.trans ((of_drew hb).mono HBp.out.size))
              replace hzB := HBp.out.size
              clear hb
              have hbA : Below V1.heap.size V1 (V1.alloc (.cells #[.int .i64 z] 2)) := (Below.refl _ _).alloc (Nat.le_refl _) _
              have hcA := cell_one_new V1 (.int .i64 z) 2
              replace HRp := Lib.hid (HRp.out.far hbA)
              replace HBp := Lib.hid (HBp.out.trans (hbA.mono hzB))
              replace hG := gr_alloc hG (.cells #[.int .i64 z] 2)
              have hszA : V1.heap.size < (V1.alloc (.cells #[.int .i64 z] 2)).heap.size := by simp
              clear hbA
              go_wp2
              try refine ⟨hG, ?_⟩
              clear hG
              generalize V1.alloc (.cells _ _) = V2 at *
              generalize V1.heap.size = b1 at *
              intro V3 hG hb
              replace HRp := Lib.hid (HRp.out.far hb)
              replace HBp := Lib.hid (HBp.out.trans (hb.mono HBp.out.size))
              replace hzB := HBp.out.size
              have HcA : Hid (∀ j u, [Value.int .i64 z][j]? = some u → V3.cell? ((⟨b1, 0, none⟩ : Addr).add j) = some u) := fun j u hj => by
                have h9 := hcA j u hj
                obtain rfl : j = 0 := by
                  have := (List.getElem?_eq_some_iff.1 hj).1
                  simp at this
                  exact this
                have e9 : (⟨b1, 0, none⟩ : Addr).add 0 = ⟨b1, 0, none⟩ := rfl
                rw [e9] at h9 ⊢
                exact (hb.cell (p := ⟨b1, 0, none⟩) hszA).trans h9
              clear hb hcA hszA
              go_wp2_with (at_builtin; refine wpList_append_own_at _ rfl _ _ 35 rfl wo.heap.size 2 i0 (.int .i64 0) 1 8 Try.underlying35 hi hz0 hz1 hz2 rfl (by decide) _ _ _ rfl HRp.out ⟨b1, 0, none⟩ 1 1 [.int .i64 z] rfl rfl HcA.out (by intro u hu; simp at hu; subst hu; rfl) (by unfold maxLen; omega) (by omega) hzB ?_; intro v1 w4 hown1 hgrow1 hnil1 hat1)
              obtain ⟨gp2, cp2, rfl, hr4, _, hgr⟩ := Rw.appsR (n := i) (m := 1) (ys := [z]) rfl HS.out.symm hown1 hgrow1 hnil1 hat1
              have HR4 := Lib.hid hr4
              have HB4 : Hid (Below wo.heap.size wo w4) := HBp.out.grown hgr hzB (fun q e => by cases e; exact hge)
              have hG4 := World.grownBy.trans hG hgr
              clear hown1 hgrow1 hnil1 hat1 hr4 hgr hG HRp HBp HcA
              go_wp2
              try refine ⟨hG4, ?_⟩
              clear hG4
              intro V5 hG hb
              replace HR4 := Lib.hid (HR4.out.far hb)
              replace HB4 := Lib.hid (HB4.out.trans (hb.mono HB4.out.size))
              clear hb
              go_wp2
              try refine ⟨hG, ?_⟩
              clear hG
              try (intro V6 hG hb; replace HR4 := Lib.hid (HR4.out.far hb); replace HB4 := Lib.hid (HB4.out.trans (hb.mono HB4.out.size)); clear hG hb; go_wp2)
              go_roundw
              case rel => exact ⟨i + 1, gp2, cp2, by omega, by go_num, by first | rfl | go_num, HR4, HB4⟩
              case measure => simp [intOf]; omega
            · obtain rfl : i = k := by omega
              have HPr := Lib.hid (HP.out.far HBp.out)
              have HLT := Lib.hid HP.out.lt
              have hle := HRp.out.le
              have HU : Hid (wr.ownsRow w1.heap.size 2 1 (.slice (some ⟨gp, 0, none⟩) i cp) (sx (f j) xs i).length ((sx (f j) xs i).map (Value.int .i64))) := by
                unfold Hid
                rw [sx_length]
                exact own_base HRp.out HP.out.2.2.1
              have hzz := HPr.out.2.2.1
              clear HRp HBp HP
              go_wp2_with (at_builtin; refine wpList_append_own_at _ rfl _ _ 22 rfl w1.heap.size 35 i1 (.slice none 0 0) 1 24 Try.underlying22 hi1 hy0 hy1 hy2 rfl (by decide) _ _ _ rfl (World.ownsRow.alloc HPr.out.1 _) ⟨wr.heap.size, 0, none⟩ 1 1 [_] rfl rfl (cell_one_new _ _ _) (by intro u hu; simp at hu; subst hu; rfl) (by unfold maxLen; omega) (by omega) (by first | (simp; done) | (simp; omega)) ?_; intro v1 w4 hown1 hgrow1 hnil1 hat1)
              obtain ⟨go', co', rfl, h9⟩ := HPr.out.step HU.out HLT.out (fun q e => by cases e; exact hle) hown1 hgrow1
              have H9 := Lib.hid h9
              clear hown1 hgrow1 hnil1 hat1 h9 HPr HU HLT
              go_wp2
              go_roundw
              case rel => exact ⟨j + 1, go', co', _, by omega, by go_num, by first | rfl | go_num, H9⟩
              case measure => simp [intOf]; omega
        · obtain rfl : j = m := by omega
          go_wp2
          go_ret2
          exact ⟨.inl ⟨HSP.out, _, _, rfl, HP.out.rr⟩, HB.out.trans (HP.out.2.1.mono hz1w)⟩
theorem szl_sx (f : Nat → List Int) (xs : List Int) (n : Nat) : ∀ m, szl (fun d => sx (f d) xs n) m = n * m := by
  intro m
  induction m with
  | zero => rfl
  | succ m ih => simp only [szl, ih, sx_length, Nat.mul_succ]
theorem lawShift (a : Option Addr) (m cap : Nat) (f : Nat → List Int) (b : Int) (a2 : Option Addr) (n cap2 : Nat) (zs : List Int) (w : World) (h : RR w.heap.size w a m f ∧ m ≤ maxLen ∧ ∀ d, (f d).length ≤ maxLen) (h2 : RowIn .i64 w a2 n zs) :
    Calls Try.prog 7 #[.slice a m cap, .int .i64 b, .slice a2 n cap2] w fun e w' => e = .returned (.bool true) ∧ Below w.heap.size w w' := by
  obtain ⟨xs, hn, hro⟩ := h2.ro
  by_cases hP : ShP m f b n xs
  · have hy : m + szl (fun d => sx (f d) xs n) m ≤ 1048576 := by
      rw [szl_sx]
      obtain ⟨⟨_, h1, h3, _⟩, h4, _⟩ := hP
      have : n * m ≤ 4 * 64 := Nat.mul_le_mul (by omega) (by omega)
      omega
    exact lawShiftPoints_core a m cap f b a2 n cap2 xs m _ true w h.1 h.2.1 h.2.2 hro hn hy
      (fun hc hn2 W b1 c1 b2 c2 hr _ hr2 _ => (specShift_any b1 m c1 f b b2 n c2 xs W hr hc hr2 hn hn2).mono fun e w' ⟨h1, h3⟩ => by
        rcases h1 with ⟨_, p, q, h4, h5⟩ | ⟨h4, _⟩
        · exact ⟨p, q, h4, h5, h3⟩
        · exact absurd hP h4)
      (fun hc hn2 W b1 c1 b2 c2 hr _ hr2 _ => shift_yes b1 m c1 f b b2 n c2 xs W hr hc hr2 hn hP)
  · exact lawShiftPoints_core a m cap f b a2 n cap2 xs 0 (fun _ => []) false w h.1 h.2.1 h.2.2 hro hn (by simp [szl])
      (fun hc hn2 W b1 c1 b2 c2 hr _ hr2 _ => (specShift_any b1 m c1 f b b2 n c2 xs W hr hc hr2 hn hn2).mono fun e w' ⟨h1, h3⟩ => by
        rcases h1 with ⟨h4, _⟩ | ⟨_, h4⟩
        · exact absurd h4 hP
        · exact ⟨_, _, h4, RR.zero, h3⟩)
      (fun hc hn2 W b1 c1 b2 c2 hr _ hr2 _ => (shift_no b1 m c1 f b b2 n c2 xs W hr hc hr2 hn hn2 hP).mono fun e w' ⟨h1, h3⟩ => by subst h3; exact ⟨_, h1, .inl ⟨rfl, rfl, Nat.le_refl _⟩, Below.refl _ _⟩)
end Go.Proofs.Ytmnnpkmjamhmcaa
