/- Orders by ranks: impl.OrderAt. -/
import Derived.Test.YtjbojamhnapkpabS7R
import Derived.Test.YtjbojamhnapkpabL7
import Derived.Test.YtjbojamhnapkpabShelf
import Derived.Sort.OwnSortedInts
namespace Go.Proofs.Ytjbojamhnapkpab
open Go.RowKit Go.PlainAid
set_option maxHeartbeats 800000

theorem Rw.block {B g n cap : Nat} {xs : List Int} {w : World} (h : Rw B g n cap xs w) : ∃ cur : Array Value, w.heap[g]? = some (.cells cur 2 (0, 0)) ∧ B ≤ g ∧ n ≤ cap ∧ cap ≤ maxLen ∧ cur.size = cap * 1 ∧ cur.toList.take n = xs.map (Value.int .i64) := by
  obtain ⟨_, ⟨h, _⟩ | ⟨g', cap', cur, hv, hg, hh, h1, h2, h3, h4⟩⟩ := h
  · cases h
  · cases hv
    exact ⟨cur, hh, hg, h1, h2, h3, by rw [Nat.mul_one] at h4; exact h4⟩
theorem Rw.put {B g n cap : Nat} {xs ts : List Int} {w : World} (h : Rw B g n cap xs w) (hl : ts.length = n) (m : Nat) : Rw B g n cap ts (Go.Sort.putRow (Value.int .i64) (Go.Sort.ahead w m) g 0 ts.toArray) ∧ w.grownBy (Go.Sort.putRow (Value.int .i64) (Go.Sort.ahead w m) g 0 ts.toArray) (some g) := by
  obtain ⟨cur, hh, hg, h1, h2, h3, h4⟩ := h.block
  have hx := h.len
  have e : ∀ W : World, Go.Sort.grow W #[] = W := fun W => by simp [Go.Sort.grow]
  have a1 := ownsRow_sortedI (n := m) (os := #[]) (ss := xs) (ts := ts) (by omega) hg hh (by omega) h2 h3
  have a2 := grownBy_sortedI (w := w) (g := g) (n := m) (os := #[]) ts.toArray
  rw [e] at a1 a2
  rw [hx] at a1
  exact ⟨a1, a2⟩
theorem Rw.holds {B g n cap : Nat} {xs : List Int} {w : World} (h : Rw B g n cap xs w) : Go.Sort.Holds (Value.int .i64) w g 0 xs.toArray := by
  obtain ⟨cur, hh, hg, h1, h2, h3, h4⟩ := h.block
  have hx := h.len
  exact holds_of_blockI hh (by rw [hx]; exact h4)
theorem Rw.front {B g n m cap : Nat} {xs ys : List Int} {w : World} (h : Rw B g n cap (xs ++ ys) w) (hm : xs.length = m) : Rw B g m cap xs w := by
  obtain ⟨cur, hh, hg, h1, h2, h3, h4⟩ := h.block
  have hx := h.len
  rw [List.length_append] at hx
  refine ⟨by simp [hm], .inr ⟨g, cap, cur, rfl, hg, hh, by omega, h2, h3, ?_⟩⟩
  rw [Nat.mul_one]
  have e : cur.toList.take m = (cur.toList.take n).take m := by rw [List.take_take, Nat.min_eq_left (by omega)]
  rw [e, h4, List.map_append, List.take_append_of_le_length (by simp; omega), List.take_of_length_le (by simp; omega)]
theorem reverse_any (B g n cap : Nat) (xs : List Int) (w : World) (h : Rw B g n cap xs w) (hn : n ≤ 64) :
    Calls Try.prog 69 #[.slice (some ⟨g, 0, none⟩) n cap] w fun e w' => e = .returned (.tuple #[]) ∧ Rw B g n cap xs.reverse w' ∧ w.grownBy w' (some g) := by
  have hx := h.len
  have := Try.slices_Reverse (Value.int .i64) (fun _ => rfl) g 0 cap xs w h.holds (by omega)
  rw [hx] at this
  refine this.mono ?_
  rintro e w' ⟨he, m, rfl⟩
  obtain ⟨a1, a2⟩ := h.put (ts := xs.reverse) (by rw [List.length_reverse, hx]) m
  exact ⟨he, a1, a2⟩
theorem delete_any (B g n cap i : Nat) (xs : List Int) (w : World) (h : Rw B g (n + 1) cap xs w) (hi : i < n + 1) (hc : cap ≤ 64) :
    Calls Try.prog 70 #[.slice (some ⟨g, 0, none⟩) (n + 1) cap, .int .i64 i, .int .i64 ((i : Int) + 1)] w fun e w' => e = .returned (.slice (some ⟨g, 0, none⟩) n cap) ∧ Rw B g n cap (xs.eraseIdx i) w' ∧ w.grownBy w' (some g) := by
  obtain ⟨i0, hi0, hz0, hz1, hz2⟩ := info_parts Try.info2
  obtain ⟨cur, hh, hg, h1, h2, h3, h4⟩ := h.block
  have hx := h.len
  have := Try.slices_Delete (Value.int .i64) (fun _ => rfl) 0 (fun w => by simp [go_sem]) i0 hi0 hz1 g 0 cap i (i + 1) xs.toArray w h.holds (by simp; omega) (by omega) (by omega) (by simp; omega)
  rw [List.size_toArray, hx, show n + 1 - (i + 1 - i) = n by omega, show i + 1 - i = 1 by omega] at this
  refine this.mono ?_
  rintro e w' ⟨he, m, rfl⟩
  have e1 : xs.take i ++ xs.drop (i + 1) = xs.eraseIdx i := (List.eraseIdx_eq_take_drop_succ xs i).symm
  obtain ⟨a1, a2⟩ := h.put (ts := xs.eraseIdx i ++ List.replicate 1 0) (by rw [List.length_append, List.length_eraseIdx_of_lt (by omega), List.length_replicate]; omega) m
  rw [← e1] at a1 a2 ⊢
  exact ⟨he, a1.front (by rw [e1, List.length_eraseIdx_of_lt (by omega)]; omega), a2⟩
theorem Rw.apps {B g n m k cap : Nat} {xs ys zs : List Int} {wr w1 : World} {v1 : Value} (hk : n + m = k) (hzs : xs ++ ys = zs) (hown : w1.ownsRow B 2 1 v1 (n + m) (xs.map (Value.int .i64) ++ ys.map (Value.int .i64))) (hg : wr.grownBy w1 (Value.slice (some ⟨g, 0, none⟩) n cap).ownBlock) (hnil : v1 = .slice none 0 0 ↔ Value.slice (some ⟨g, 0, none⟩) n cap = .slice none 0 0 ∧ m = 0) (hat : v1.ownBlock = (Value.slice (some ⟨g, 0, none⟩) n cap).ownBlock ∨ v1.ownBlock = some wr.heap.size) :
    ∃ g1 cap1, v1 = .slice (some ⟨g1, 0, none⟩) k cap1 ∧ Rw B g1 k cap1 zs w1 ∧ (g1 = g ∨ g1 = wr.heap.size) ∧ wr.grownBy w1 (some g) := by
  subst hk hzs
  have hk := hown
  obtain ⟨hlen, ⟨h, _⟩ | ⟨g', cap', cur, rfl, hr⟩⟩ := hown
  · have := (hnil.1 h).1
    cases this
  · refine ⟨g', cap', rfl, ?_, ?_, hg⟩
    · unfold Rw
      rw [List.map_append]
      exact hk
    · simpa [Value.ownBlock] using hat
theorem slice_upto (T : TypeId) (hu : ∀ W, (underlying T).run Try.prog W = .ok (.slice 2) W) (g n c d : Nat) (hd : d ≤ n) (hc : n ≤ c) :
    ∀ W, (Instr.slice T (.slice (some ⟨g, 0, none⟩) n c) none (some (.int .i64 (d : Int))) none).run Try.prog W = .ok (.slice (some ⟨g, 0, none⟩) d c) W := by
  intro W
  have k1 : (0 : Int) ≤ (d : Int) := by omega
  have k2 : d ≤ c := by omega
  by_cases hd0 : c = 0
  · simp [go_sem, Instr.slice, Instr.sliceBounds, Instr.sliceBound, hd0, hu, k1]
    omega
  · simp [go_sem, Instr.slice, Instr.sliceBounds, Instr.sliceBound, hu, k1, k2, Addr.add]
theorem slice_past (T : TypeId) (hu : ∀ W, (underlying T).run Try.prog W = .ok (.slice 2) W) {B g n c : Nat} {xs : List Int} {w : World} (h : Rw B g n c xs w) (d q : Nat) (hd : d + 1 + q = n) :
    ∃ ad c2, (∀ W, (Instr.slice T (.slice (some ⟨g, 0, none⟩) n c) (some (.int .i64 ((d : Int) + 1))) none none).run Try.prog W = .ok (.slice (some ad) q c2) W) ∧ ∀ W : World, (∀ i, i < n → W.cell? ⟨g, i, none⟩ = some (.int .i64 (xs.getD i 0))) → ∀ j u, ((xs.drop (d + 1)).map (Value.int .i64))[j]? = some u → W.cell? (ad.add j) = some u := by
  obtain ⟨cur, hh, hg, h1, h2, h3, h4⟩ := h.block
  have hl := h.len
  have k1 : (0 : Int) ≤ (d : Int) + 1 := by omega
  have k3 : ((d : Int) + 1).toNat = d + 1 := by omega
  have k4 : n - (d + 1) = q := by omega
  have k5 : d + 1 ≤ n := by omega
  by_cases hd0 : c = d + 1
  · refine ⟨⟨g, 0, none⟩, c - (d + 1), fun W => ?_, fun W _ j u hj => ?_⟩
    · have k6 : q = 0 := by omega
      have k7 : n = d + 1 := by omega
      simp [go_sem, Instr.slice, Instr.sliceBounds, Instr.sliceBound, hd0, hu, k1, k3, k6, k7]
    · rw [List.drop_of_length_le (by omega)] at hj
      simp at hj
  · refine ⟨(⟨g, 0, none⟩ : Addr).add ((d + 1) * 1), c - (d + 1), fun W => ?_, fun W hW j u hj => ?_⟩
    · simp [go_sem, Instr.slice, Instr.sliceBounds, Instr.sliceBound, hd0, hu, k1, k3, k4]
      intro y
      omega
    · rw [List.getElem?_map, List.getElem?_drop] at hj
      obtain ⟨x, hx, rfl⟩ := Option.map_eq_some_iff.1 hj
      have hlt := (List.getElem?_eq_some_iff.1 hx).1
      have := hW (d + 1 + j) (by omega)
      rw [List.getD_eq_getElem?_getD, hx] at this
      rcases j with _ | j
      · simpa [Addr.add] using this
      · simpa [Addr.add] using this
theorem ints_one (l : List Int) : ∀ u ∈ l.map (Value.int .i64), u.oneCell' = true := by
  intro u hu
  obtain ⟨x, _, rfl⟩ := List.mem_map.1 hu
  rfl
theorem Rw.newsUpto {B g n c : Nat} {xs : List Int} {W : World} (h : Rw B g n c xs W) (d : Nat) : ∀ j u, ((xs.take d).map (Value.int .i64))[j]? = some u → W.cell? ((⟨g, 0, none⟩ : Addr).add j) = some u := by
  intro j u hj
  have hl := h.len
  rw [List.getElem?_map] at hj
  obtain ⟨x, hx, rfl⟩ := Option.map_eq_some_iff.1 hj
  have hlt := (List.getElem?_eq_some_iff.1 hx).1
  rw [List.length_take] at hlt
  have := h.cell (i := j) (by omega)
  rw [List.getElem?_take, if_pos (by omega)] at hx
  rw [List.getD_eq_getElem?_getD, hx] at this
  rcases j with _ | j
  · simpa [Addr.add] using this
  · simpa [Addr.add] using this
/-- the digits of a rank, the one for the last place first -/
def dgL (r k : Nat) : List Int := (List.range k).map fun i => (dig r i : Int)
theorem dgL_length (r k : Nat) : (dgL r k).length = k := by simp [dgL]
theorem dgL_succ (r k : Nat) : dgL r (k + 1) = dgL r k ++ [(dig r k : Int)] := by simp [dgL, List.range_succ]
theorem dgL_rev {r n p : Nat} (h : p < n) : (dgL r n).reverse[p]? = some (dig r (n - 1 - p) : Int) := by
  rw [List.getElem?_reverse (by rw [dgL_length]; exact h), dgL_length]
  unfold dgL
  rw [List.getElem?_map, List.getElem?_range (by omega)]
  rfl
theorem atD_next (n r p : Nat) : atD n r (p + 1) = ((atD n r p).1.eraseIdx (dig r (n - 1 - p)), (atD n r p).2 ++ [(atD n r p).1.getD (dig r (n - 1 - p)) 0]) := rfl
/-- the three lists of an order by its rank -/
def At3 (B gl lc gd dc go oc n r p : Nat) (w W : World) : Prop := (Rw B gl (n - p) lc (atD n r p).1 W ∧ Rw B gd n dc (dgL r n).reverse W ∧ Rw B go p oc (atD n r p).2 W) ∧ (gl ≠ gd ∧ gl ≠ go ∧ gd ≠ go) ∧ Below B w W
set_option maxRecDepth 10000 in
theorem orderAt_yes (n r : Nat) (w : World) (h1 : 1 ≤ n) (h2 : n ≤ 12) (hr : r < fac n) :
    Calls Try.prog 30 #[.int .i64 n, .int .i64 r] w (ListRet w (atD n r n).2 true) := by
  obtain ⟨i0, hi, hz0, hz1, hz2⟩ := info_parts Try.info2
  have hf := fac_le n h2
  have HI1 : Hid (∀ W : World, Calls Try.prog 63 #[.int .i64 n, .int .i64 1, .int .i64 12] W fun e w' => e = .returned (.bool true) ∧ W = w') := fun W => btw64_yes _ _ _ W (by omega) (by omega)
  obtain ⟨F, hF⟩ : ∃ F, fac n = F := ⟨_, rfl⟩
  have HFa : Hid (∀ W : World, Calls Try.prog 64 #[.int .i64 n] W fun e w' => e = .returned (.int .i64 F) ∧ W = w') := fun W => by
    have := fact_any n W h2
    rwa [hF] at this
  rw [hF] at hf hr
  have HI2 : Hid (∀ W : World, Calls Try.prog 63 #[.int .i64 r, .int .i64 0, .int .i64 ((F : Int) - 1)] W fun e w' => e = .returned (.bool true) ∧ W = w') := fun W => btw64_yes _ _ _ W (by omega) (by omega)
  have HO : Hid (Rw w.heap.size w.heap.size 0 0 (dgL r 0) (w.alloc (.cells #[] 2)) ∧ Below w.heap.size w (w.alloc (.cells #[] 2))) := ⟨Rw.empty w, (Below.refl _ _).alloc (Nat.le_refl _) _⟩
  have hr9 : r ≤ 479001600 := by omega
  have HQ0 : Hid (r = r / fac 0) := by unfold Hid; simp [fac]
  clear hF
  go_enter Try.func30, Try.ntmps30
  go_wp2_with (first | (go_at_call 63; with_reducible refine (HI1.out _).mono ?_; rintro e w1 ⟨rfl, rfl⟩) | (go_at_call 63; with_reducible refine (HI2.out _).mono ?_; rintro e w1 ⟨rfl, rfl⟩) | (go_at_call 64; with_reducible refine (HFa.out _).mono ?_; rintro e w1 ⟨rfl, rfl⟩))
  go_loopw [1, 6, 7] (fun qv dv lv wr => ∃ k q g cap : Nat, k ≤ n ∧ lv = .int .i64 ((k : Int) + 1) ∧ qv = .int .i64 q ∧ q ≤ 479001600 ∧ dv = .slice (some ⟨g, 0, none⟩) k cap ∧ Hid (q = r / fac k) ∧ Hid (Rw w.heap.size g k cap (dgL r k) wr ∧ Below w.heap.size w wr)) (fun _ _ lv _ => n + 1 - (intOf lv).toNat)
  case atStart => exact ⟨0, r, _, _, Nat.zero_le _, rfl, rfl, hr9, rfl, HQ0, HO⟩
  case round =>
    obtain ⟨k, q, g, cap, hk, rfl, rfl, hq, rfl, HQ, HD⟩ := hrel
    clear HO
    by_cases hlt : k < n
    · obtain ⟨k1, hk1⟩ : ∃ k1, k + 1 = k1 := ⟨_, rfl⟩
      have hki : (k : Int) + 1 = (k1 : Int) := by omega
      have hd1 : q % k1 = dig r k := by rw [HQ.out, ← hk1]; rfl
      have hd2 : q / k1 = r / fac (k + 1) := by rw [HQ.out, ← hk1]; exact div_fac r k
      obtain ⟨d, hd⟩ : ∃ d, q % k1 = d := ⟨_, rfl⟩
      obtain ⟨q2, hq2⟩ : ∃ q2, q / k1 = q2 := ⟨_, rfl⟩
      have hq2b : q2 ≤ 479001600 := by rw [← hq2]; exact Nat.le_trans (Nat.div_le_self _ _) hq
      have hdl : d < k1 := by rw [← hd]; exact Nat.mod_lt _ (by omega)
      have m1 : (q : Int) % (k1 : Int) = (d : Int) := by rw [← hd]; simp
      have m1' : (q : Int).tmod (k1 : Int) = (d : Int) := by rw [Int.tmod_eq_emod_of_nonneg (by omega)]; exact m1
      have m2 : (q : Int) / (k1 : Int) = (q2 : Int) := by rw [← hq2]; simp
      have m2' : (q : Int).tdiv (k1 : Int) = (q2 : Int) := by rw [Int.tdiv_eq_ediv_of_nonneg (by omega)]; exact m2
      have HE : Hid (dgL r (k + 1) = dgL r k ++ [(d : Int)]) := by unfold Hid; rw [dgL_succ, ← hd1, hd]
      have HQ2 : Hid (q2 = r / fac (k + 1)) := by unfold Hid; rw [← hq2, hd2]
      have hk0 : ¬ k1 = 0 := by omega
      have hk0' : ¬ (k1 : Int) = 0 := by omega
      have hle : (k1 : Int) ≤ (n : Int) := by omega
      have hk1n : k1 ≤ 12 := by omega
      have HKK : Hid ((k1 : Int) + 1 = ((k + 1 : Nat) : Int) + 1) := by unfold Hid; omega
      have hzz := HD.out.2.size
      have hgl := HD.out.1.le
      rw [hki]
      clear hd1 hd2 hd hq2 hk1 hki HQ
      go_wp2_with (at_builtin; refine wpList_append_own_at _ rfl _ _ 22 rfl w.heap.size 2 i0 (.int .i64 0) 1 8 Try.underlying22 hi hz0 hz1 hz2 rfl (by decide) _ _ _ rfl (World.ownsRow.alloc HD.out.1 _) ⟨wr.heap.size, 0, none⟩ 1 1 [.int .i64 d] rfl rfl (cell_one_new _ _ _) (by intro u hu; simp at hu; subst hu; rfl) (by unfold maxLen; omega) (by omega) (by first | (simp; done) | (simp; omega)) ?_; intro v1 w1 hown1 hgrow1 hnil1 hat1)
      obtain ⟨g1, cap1, rfl, hr1, hg1, hgr⟩ := Rw.app HD.out.1 hown1 hgrow1 hat1
      have HD2 : Hid (Rw w.heap.size g1 (k + 1) cap1 (dgL r (k + 1)) w1 ∧ Below w.heap.size w w1) := by
        unfold Hid
        rw [HE.out]
        exact ⟨hr1, HD.out.2.grown hgr hzz (fun q e => by cases e; exact hgl)⟩
      clear hown1 hgrow1 hnil1 hat1 hr1 hg1 hgr HD
      go_roundw
      case rel => exact ⟨k + 1, q2, g1, cap1, by omega, by rw [HKK.out], rfl, hq2b, rfl, HQ2, HD2⟩
      case measure => simp [intOf]; omega
    · obtain rfl : k = n := by omega
      have hge : ¬ ((k : Int) + 1 ≤ (k : Int)) := by omega
      have HRv := Lib.hid (reverse_any _ _ _ _ _ _ HD.out.1 (by omega))
      have HBl := Lib.hid HD.out.2
      have hgd := HD.out.1.le
      have HA : Hid (∀ W : World, Calls Try.prog 51 #[.int .i64 k] W fun e w' => e = .returned (.slice (some ⟨W.heap.size, 0, none⟩) k k) ∧ Rw W.heap.size W.heap.size k k (asc k) w' ∧ Below W.heap.size W w') := fun W => asc_any k W h2
      clear HD HQ
      go_wp2_with fail
      refine (HRv.out).mono ?_
      rintro e w2 ⟨rfl, hr2, hgr2⟩
      have hb2 := HBl.out.grown hgr2 HBl.out.size (fun q e => by cases e; exact hgd)
      go_wp2_with fail
      refine (HA.out _).mono ?_
      rintro e w3 ⟨rfl, hr3, hb3⟩
      have hz2 := hb2.size
      have hgd2 := hr2.lt
      have hgl3 := hr3.lt
      have hb03 := hb2.trans (hb3.mono hz2)
      have hz3 := hb03.size
      have HS0 : Hid (At3 w.heap.size w2.heap.size k g cap w3.heap.size 0 k r 0 w (w3.alloc (.cells #[] 2))) := by
        have ha := (Below.refl w3.heap.size w3).alloc (Nat.le_refl _) (.cells #[] 2)
        exact ⟨⟨(hr3.base hz2).far ha, (hr2.far hb3).far ha, (Rw.empty w3).base hz3⟩, ⟨by omega, by omega, by omega⟩, hb03.alloc hz3 _⟩
      obtain ⟨gl, hgl⟩ : ∃ gl, w2.heap.size = gl := ⟨_, rfl⟩
      rw [hgl] at HS0 ⊢
      clear HRv HBl hgd HA hr2 hgr2 hb2 hr3 hb3 hgd2 hgl3 hb03 hz2 hz3 hgl
      go_wp2_with fail
      go_loopw [8, 9, 11, 45] (fun fv ov _ iv wr => ∃ p m go oc : Nat, p ≤ k ∧ p + m = k ∧ iv = .int .i64 p ∧ fv = .slice (some ⟨gl, 0, none⟩) m k ∧ ov = .slice (some ⟨go, 0, none⟩) p oc ∧ Hid (At3 w.heap.size gl k g cap go oc k r p w wr)) (fun _ _ _ iv _ => k - (intOf iv).toNat)
      case atStart => exact ⟨0, k, _, _, Nat.zero_le _, by omega, rfl, rfl, rfl, HS0⟩
      case round =>
        obtain ⟨p, m, go, oc, hp, hpm, rfl, rfl, rfl, HS⟩ := hrel
        clear HS0
        by_cases hlt : p < k
        · obtain ⟨d, hd⟩ : ∃ d, dig r (k - 1 - p) = d := ⟨_, rfl⟩
          obtain ⟨q, rfl⟩ : ∃ q, m = q + 1 := ⟨m - 1, by omega⟩
          have hdl : d < q + 1 := by
            have := dig_lt r (k - 1 - p)
            omega
          obtain ⟨x, hx⟩ : ∃ x, (atD k r p).1.getD d 0 = x := ⟨_, rfl⟩
          have HE : Hid (atD k r (p + 1) = ((atD k r p).1.eraseIdx d, (atD k r p).2 ++ [x])) := by unfold Hid; rw [atD_next, hd, hx]
          have hcd := HS.out.1.2.1.cell hlt
          rw [List.getD_eq_getElem?_getD, dgL_rev hlt, hd] at hcd
          have hcd2 : wr.cell? ⟨g, p, none⟩ = some (.int .i64 d) := hcd
          have hkp : k - p = q + 1 := by omega
          have hcl := HS.out.1.1.cell (i := d) (by omega)
          rw [hx] at hcl
          have hzz := HS.out.2.2.size
          have hgg := HS.out.1.2.2.le
          have hq1 : ((q + 1 : Nat) : Int) = (q : Int) + 1 := by omega
          clear hcd hd hx
          go_wp2_with (at_builtin; refine wpList_append_own_at _ rfl _ _ 22 rfl w.heap.size 2 i0 (.int .i64 0) 1 8 Try.underlying22 hi hz0 hz1 hz2 rfl (by decide) _ _ _ rfl (World.ownsRow.alloc (HS.out.1.2.2) _) ⟨wr.heap.size, 0, none⟩ 1 1 [.int .i64 x] rfl rfl (cell_one_new _ _ _) (by intro u hu; simp at hu; subst hu; rfl) (by unfold maxLen; omega) (by omega) (by first | (simp; done) | (simp; omega)) ?_; intro v1 w1 hown1 hgrow1 hnil1 hat1)
          obtain ⟨g1, cap1, rfl, hr1, hg1, hgr⟩ := Rw.app HS.out.1.2.2 hown1 hgrow1 hat1
          have hll := HS.out.1.1.lt
          have hld := HS.out.1.2.1.lt
          have hne : gl ≠ g1 ∧ g ≠ g1 := by have := HS.out.2.1; omega
          have HL1 : Hid (Rw w.heap.size gl (q + 1) k (atD k r p).1 w1) := by
            have := HS.out.1.1.grown hgr (by have := HS.out.2.1; simp; omega)
            rw [hkp] at this
            exact this
          have HD1 := Lib.hid (HS.out.1.2.1.grown hgr (by have := HS.out.2.1; simp; omega))
          have HC1 := Lib.hid hr1
          have HB1 : Hid (Below w.heap.size w w1) := HS.out.2.2.grown hgr hzz (fun q e => by cases e; exact hgg)
          have HN1 := Lib.hid (And.intro HS.out.2.1.1 hne)
          have HX := Lib.hid (delete_any w.heap.size gl q k d (atD k r p).1 w1 HL1.out hdl (by omega))
          have hgl1 := HL1.out.le
          clear hown1 hgrow1 hnil1 hat1 hr1 hg1 hgr HS hll hld hne hcd2 hcl
          go_wp2_with fail
          refine (HX.out).mono ?_
          rintro e w4 ⟨rfl, hd4, hg4⟩
          have HS2 : Hid (At3 w.heap.size gl k g cap g1 cap1 k r (p + 1) w w4) := by
            unfold Hid At3
            rw [HE.out, show k - (p + 1) = q by omega]
            exact ⟨⟨hd4, HD1.out.grown hg4 (by have := HN1.out; simp; omega), HC1.out.grown hg4 (by have := HN1.out; simp; omega)⟩, ⟨HN1.out.1, HN1.out.2.1, HN1.out.2.2⟩, HB1.out.grown hg4 HB1.out.size (fun q e => by cases e; exact hgl1)⟩
          clear hd4 hg4 HX HL1 HD1 HC1 HB1 HN1
          go_wp2
          go_roundw
          case rel => exact ⟨p + 1, q, g1, cap1, by omega, by omega, by go_num, rfl, by first | rfl | go_num, HS2⟩
          case measure => first | (simp [intOf]; done) | (simp [intOf]; omega)
        · obtain rfl : p = k := by omega
          go_wp2
          go_ret2
          exact ⟨_, rfl, HS.out.1.2.2.sl, HS.out.2.2⟩
set_option maxRecDepth 10000 in
theorem l07At_any (n r : Nat) (w : World) (h1 : 1 ≤ n) (h2 : n ≤ 12) (hr : r < fac n) :
    Calls Try.prog 68 #[.int .i64 n, .int .i64 r] w fun e w' => ∃ v, e = .returned v ∧ SL w.heap.size w'.heap.size w' v (atD n r n).2 ∧ Below w.heap.size w w' := by
  obtain ⟨i0, hi, hz0, hz1, hz2⟩ := info_parts Try.info2
  have hf := fac_le n h2
  have HA : Hid (∀ W : World, Calls Try.prog 48 #[.int .i64 n] W fun e w' => ∃ g cap, e = .returned (.slice (some ⟨g, 0, none⟩) n cap) ∧ Rw W.heap.size g n cap (asc n) w' ∧ Below W.heap.size W w') := fun W => first_any n W h2
  have HF : Hid (∀ (i : Nat) (W : World), i ≤ 12 → Calls Try.prog 61 #[.int .i64 i] W fun e w' => e = .returned (.int .i64 (fac i : Nat)) ∧ W = w') := fun i W hi => all_any i W hi
  have HQ0 : Hid (r = r % fac n) := (Nat.mod_eq_of_lt hr).symm
  have hr9 : r ≤ 479001600 := by omega
  clear hr hf
  go_enter Try.func68, Try.ntmps68
  go_wp2_with fail
  refine (HA.out _).mono ?_
  rintro e w1 ⟨gl0, lc0, rfl, hr1, hb1⟩
  have hz1 := hb1.size
  have hl1 := hr1.lt
  have HS0 : Hid ((Rw w.heap.size gl0 n lc0 (atD n r 0).1 (w1.alloc (.cells #[] 2)) ∧ Rw w.heap.size w1.heap.size 0 0 (atD n r 0).2 (w1.alloc (.cells #[] 2))) ∧ gl0 ≠ w1.heap.size ∧ Below w.heap.size w (w1.alloc (.cells #[] 2))) :=
    ⟨⟨hr1.far ((Below.refl w1.heap.size w1).alloc (Nat.le_refl _) _), (Rw.empty w1).base hz1⟩, by omega, hb1.alloc hz1 _⟩
  clear hr1 hb1 hz1 hl1 HA
  go_wp2_with fail
  go_loopw [1, 5, 6, 7] (fun qv fv ov iv wr => ∃ p m q gl lc go oc : Nat, p + m = n ∧ iv = .int .i64 ((m : Int) - 1) ∧ qv = .int .i64 q ∧ q ≤ 479001600 ∧ fv = .slice (some ⟨gl, 0, none⟩) m lc ∧ ov = .slice (some ⟨go, 0, none⟩) p oc ∧ Hid (q = r % fac m) ∧ Hid ((Rw w.heap.size gl m lc (atD n r p).1 wr ∧ Rw w.heap.size go p oc (atD n r p).2 wr) ∧ gl ≠ go ∧ Below w.heap.size w wr)) (fun _ _ _ iv _ => (intOf iv + 1).toNat)
  case atStart => exact ⟨0, n, r, _, _, _, _, by omega, rfl, rfl, hr9, rfl, rfl, HQ0, HS0⟩
  case round =>
    obtain ⟨p, m, q, gl, lc, go, oc, hpm, rfl, rfl, hq, rfl, rfl, HQ, HS⟩ := hrel
    clear HS0 HQ0
    by_cases hlt : 0 < m
    · obtain ⟨i, rfl⟩ : ∃ i, m = i + 1 := ⟨m - 1, by omega⟩
      have him : ((i + 1 : Nat) : Int) - 1 = (i : Int) := by omega
      rw [him]
      obtain ⟨d, hd⟩ : ∃ d, dig r i = d := ⟨_, rfl⟩
      have hdl : d < i + 1 := by have := dig_lt r i; omega
      have hip : n - 1 - p = i := by omega
      obtain ⟨x, hx⟩ : ∃ x, (atD n r p).1.getD d 0 = x := ⟨_, rfl⟩
      have HE : Hid (atD n r (p + 1) = ((atD n r p).1.eraseIdx d, (atD n r p).2 ++ [x])) := by unfold Hid; rw [atD_next, hip, hd, hx]
      obtain ⟨F, hF⟩ : ∃ F, fac i = F := ⟨_, rfl⟩
      have hFp : 0 < F := by rw [← hF]; exact fac_pos i
      have HFF : Hid (∀ W : World, Calls Try.prog 61 #[.int .i64 i] W fun e w' => e = .returned (.int .i64 F) ∧ W = w') := fun W => by
        have := HF.out i W (by omega)
        rwa [hF] at this
      have hqd : q / F = d := by rw [HQ.out, ← hF, dig_spec, hd]
      obtain ⟨q2, hq2⟩ : ∃ q2, q % F = q2 := ⟨_, rfl⟩
      have HQ2 : Hid (q2 = r % fac i) := by unfold Hid; rw [← hq2, HQ.out, ← hF, dig_rest]
      have hq2b : q2 ≤ 479001600 := by rw [← hq2]; exact Nat.le_trans (Nat.mod_le _ _) hq
      have m1 : (q : Int) % (F : Int) = (q2 : Int) := by rw [← hq2]; simp
      have m1' : (q : Int).tmod (F : Int) = (q2 : Int) := by rw [Int.tmod_eq_emod_of_nonneg (by omega)]; exact m1
      have m2 : (q : Int) / (F : Int) = (d : Int) := by rw [← hqd]; simp
      have m2' : (q : Int).tdiv (F : Int) = (d : Int) := by rw [Int.tdiv_eq_ediv_of_nonneg (by omega)]; exact m2
      have hF0 : ¬ F = 0 := by omega
      have hF0' : ¬ (F : Int) = 0 := by omega
      have hFb : F ≤ 479001600 := by rw [← hF]; exact fac_le i (by omega)
      have hi1 : ((i + 1 : Nat) : Int) = (i : Int) + 1 := by omega
      obtain ⟨_, _, _, hlc, _⟩ := HS.out.1.1.block
      have K1 := slice_upto 22 (fun W => by simp [go_sem]) gl (i + 1) lc d (by omega) hlc
      obtain ⟨ad, c2, K2, HC2⟩ := slice_past 22 (fun W => by simp [go_sem]) HS.out.1.1 d (i - d) (by omega)
      have hcl := HS.out.1.1.cell (i := d) hdl
      rw [hx] at hcl
      have hzz := HS.out.2.2.size
      have hgg := HS.out.1.2.le
      clear hd hx hF hqd hq2 hip him
      have hlen := HS.out.1.1.len
      have HLA : Hid ((((atD n r p).1.take d).map (Value.int .i64)).length = d * 1) := by unfold Hid; rw [List.length_map, List.length_take]; omega
      have HLB : Hid ((((atD n r p).1.drop (d + 1)).map (Value.int .i64)).length = (i - d) * 1) := by unfold Hid; rw [List.length_map, List.length_drop]; omega
      have HER : Hid ((atD n r p).1.take d ++ (atD n r p).1.drop (d + 1) = (atD n r p).1.eraseIdx d) := (List.eraseIdx_eq_take_drop_succ _ _).symm
      replace HC2 := Lib.hid HC2
      have HGL := Lib.hid HS.out.1.1.lt
      have HGO := Lib.hid HS.out.1.2.lt
      clear hlen
      go_wp2_with (first | (go_at_call 61; with_reducible refine (HFF.out _).mono ?_; rintro e w1 ⟨rfl, rfl⟩) | (at_builtin; refine wpList_append_own_at _ rfl _ _ 22 rfl w.heap.size 2 i0 (.int .i64 0) 1 8 Try.underlying22 hi hz0 hz1 hz2 rfl (by decide) _ _ _ rfl (World.ownsRow.alloc (HS.out.1.2) _) ⟨wr.heap.size, 0, none⟩ 1 1 [.int .i64 x] rfl rfl (cell_one_new _ _ _) (by intro u hu; simp at hu; subst hu; rfl) (by unfold maxLen; omega) (by omega) (by first | (simp; done) | (simp; omega)) ?_; intro v1 w1 hown1 hgrow1 hnil1 hat1; obtain ⟨g1, cap1, rfl, hr1, hg1, hgr⟩ := Rw.app HS.out.1.2 hown1 hgrow1 hat1; have HL1 := Lib.hid (HS.out.1.1.grown hgr (by have := HS.out.2.1; simp; omega)); have HB1 := Lib.hid (HS.out.2.2.grown hgr hzz (fun q e => by cases e; exact hgg)); have HR1 := Lib.hid hr1; have HZ1 := Lib.hid HB1.out.size; clear hown1 hgrow1 hnil1 hat1 hr1 hgr) | (at_builtin; refine wpList_append_own_at _ rfl _ _ 22 rfl w.heap.size 2 i0 (.int .i64 0) 1 8 Try.underlying22 hi hz0 hz1 hz2 rfl (by decide) _ _ _ rfl ((Rw.empty w1).base HZ1.out) ⟨gl, 0, none⟩ d lc (((atD n r p).1.take d).map (Value.int .i64)) rfl HLA.out ((HL1.out.far ((Below.refl w1.heap.size w1).alloc (Nat.le_refl _) _)).newsUpto d) (ints_one _) (by unfold maxLen; omega) (by omega) (by first | exact Nat.le_trans HZ1.out (by simp) | (simp; done) | (simp; omega)) ?_; intro v2 w2 hown2 hgrow2 hnil2 hat2; obtain ⟨g2, cap2, rfl, hr2, hg2, hgr2⟩ := Rw.apps (Nat.zero_add d) (List.nil_append _) hown2 hgrow2 hnil2 hat2; have HT2 := Lib.hid (And.intro hg2 hgr2); have HR2 := Lib.hid hr2; have HL2 := Lib.hid ((HL1.out.far ((Below.refl w1.heap.size w1).alloc (Nat.le_refl _) _)).grown hgr2 (by have := HL1.out.lt; simp; omega)); have HB2 := Lib.hid ((HB1.out.alloc HZ1.out _).grown hgr2 (HB1.out.alloc HZ1.out _).size (fun q e => by cases e; exact HZ1.out)); clear hown2 hgrow2 hnil2 hat2 hr2 hgr2 hg2) | (at_builtin; refine wpList_append_own_at _ rfl _ _ 22 rfl w.heap.size 2 i0 (.int .i64 0) 1 8 Try.underlying22 hi hz0 hz1 hz2 rfl (by decide) _ _ _ rfl (HR2.out) ad (i - d) c2 (((atD n r p).1.drop (d + 1)).map (Value.int .i64)) rfl HLB.out (HC2.out w2 (fun i hi => HL2.out.cell hi)) (ints_one _) (by unfold maxLen; omega) (by omega) (by exact HB2.out.size) ?_; intro v3 w3 hown3 hgrow3 hnil3 hat3; obtain ⟨g3, cap3, rfl, hr3, hg3, hgr3⟩ := Rw.apps (k := i) (by omega) HER.out hown3 hgrow3 hnil3 hat3; have HT3 := Lib.hid (And.intro hr3 (And.intro hg3 hgr3)); clear hown3 hgrow3 hnil3 hat3 hr3 hgr3 hg3))
      have HS3 : Hid ((Rw w.heap.size g3 i cap3 (atD n r (p + 1)).1 w3 ∧ Rw w.heap.size g1 (p + 1) cap1 (atD n r (p + 1)).2 w3) ∧ g3 ≠ g1 ∧ Below w.heap.size w w3) := by
        unfold Hid
        rw [HE.out]
        obtain ⟨k1, k2, k3⟩ := HT3.out
        obtain ⟨k4, k5⟩ := HT2.out
        have k6 := HR1.out.lt
        have k7 := (HR1.out.far ((Below.refl w1.heap.size w1).alloc (Nat.le_refl _) (.cells #[] 2))).grown k5 (by simp; omega)
        have k8 := k7.lt
        have k9 : g2 ≠ g1 := by
          rcases k4 with e | e
          · omega
          · rw [World.size_alloc] at e
            omega
        refine ⟨⟨k1, k7.grown k3 (by simp; exact k9)⟩, by omega, HB2.out.grown k3 HB2.out.size (fun q e => by cases e; exact HR2.out.le)⟩
      clear HT3 HT2 HR1 HR2 HB1 HB2 HL1 HL2 HZ1
      go_roundw
      case rel => exact ⟨p + 1, i, q2, g3, cap3, g1, cap1, by omega, rfl, rfl, hq2b, rfl, by first | rfl | go_num, HQ2, HS3⟩
      case measure => first | (simp [intOf]; done) | (simp [intOf]; omega)
    · obtain rfl : m = 0 := by omega
      obtain rfl : p = n := by omega
      have t0 : ((0 : Nat) : Int) - 1 = -1 := rfl
      go_wp2
      go_ret
      exact ⟨_, rfl, HS.out.1.2.sl, HS.out.2.2⟩
/-- all that is asked of the arguments -/
def AtP (n r : Int) : Prop := (1 ≤ n ∧ n ≤ 12) ∧ 0 ≤ r ∧ r < fac n.toNat
theorem orderAt_no (n r : Int) (w : World) (h : ¬ AtP n r) :
    Calls Try.prog 30 #[.int .i64 n, .int .i64 r] w (ListRet w [] false) := by
  by_cases hn : 1 ≤ n ∧ n ≤ 12
  · obtain ⟨N, rfl⟩ := Int.eq_ofNat_of_zero_le (show 0 ≤ n by omega)
    have hf := fac_le N (by omega)
    have HI1 : Hid (∀ W : World, Calls Try.prog 63 #[.int .i64 N, .int .i64 1, .int .i64 12] W fun e w' => e = .returned (.bool true) ∧ W = w') := fun W => btw64_yes _ _ _ W (by omega) (by omega)
    have hr : ¬ (0 ≤ r ∧ r ≤ (fac N : Int) - 1) := fun y => h ⟨hn, y.1, by simp only [Int.toNat_natCast]; omega⟩
    have HFa : Hid (∀ W : World, Calls Try.prog 64 #[.int .i64 N] W fun e w' => e = .returned (.int .i64 (fac N : Nat)) ∧ W = w') := fun W => fact_any N W (by omega)
    obtain ⟨F, hF⟩ : ∃ F, fac N = F := ⟨_, rfl⟩
    rw [hF] at HFa hf hr
    have HI2 : Hid (∀ W : World, Calls Try.prog 63 #[.int .i64 r, .int .i64 0, .int .i64 ((F : Int) - 1)] W fun e w' => e = .returned (.bool false) ∧ W = w') := fun W => btw64_no _ _ _ W hr
    clear h hn hr hF
    go_enter Try.func30, Try.ntmps30
    go_wp2_with (first | (go_at_call 63; with_reducible refine (HI1.out _).mono ?_; rintro e w1 ⟨rfl, rfl⟩) | (go_at_call 63; with_reducible refine (HI2.out _).mono ?_; rintro e w1 ⟨rfl, rfl⟩) | (go_at_call 64; with_reducible refine (HFa.out _).mono ?_; rintro e w1 ⟨rfl, rfl⟩))
    go_ret2
    exact ⟨_, rfl, .inl ⟨rfl, rfl⟩, Below.refl _ _⟩
  · have HI1 : Hid (∀ W : World, Calls Try.prog 63 #[.int .i64 n, .int .i64 1, .int .i64 12] W fun e w' => e = .returned (.bool false) ∧ W = w') := fun W => btw64_no _ _ _ W hn
    clear h hn
    go_enter Try.func30, Try.ntmps30
    go_wp2_with (go_at_call 63; with_reducible refine (HI1.out _).mono ?_; rintro e w1 ⟨rfl, rfl⟩)
    go_ret2
    exact ⟨_, rfl, .inl ⟨rfl, rfl⟩, Below.refl _ _⟩
theorem many7_b (n : Int) (b : Bool) (w : World) (hb : decide (1 ≤ n ∧ n ≤ 12) = b) :
    Calls Try.prog 67 #[.int .i64 n] w fun e w' => e = .returned (.bool b) ∧ w = w' := by
  have HI : Hid (∀ W : World, Calls Try.prog 56 #[.int .i64 n, .int .i64 1, .int .i64 12] W fun e w' => e = .returned (.bool b) ∧ W = w') := fun W => by
    subst hb
    by_cases h : 1 ≤ n ∧ n ≤ 12
    · rw [decide_eq_true h]; exact l00In_yes _ _ _ _ h.1 h.2
    · rw [decide_eq_false h]; exact l00In_no _ _ _ _ h
  go_enter Try.func67, Try.ntmps67
  go_wp2_with (go_at_call 56; with_reducible refine (HI.out _).mono ?_; rintro e w1 ⟨rfl, rfl⟩)
  go_ret
  exact ⟨rfl, rfl⟩
theorem specOrderAt_yes (n r : Nat) (w : World) (h1 : 1 ≤ n) (h2 : n ≤ 12) (hr : r < fac n) :
    Calls Try.prog 29 #[.int .i64 n, .int .i64 r] w (ListRet w (atD n r n).2 true) := by
  have HM : Hid (∀ W : World, Calls Try.prog 67 #[.int .i64 n] W fun e w' => e = .returned (.bool true) ∧ W = w') := fun W => many7_b n true W (decide_eq_true (by omega))
  have HA : Hid (∀ W : World, Calls Try.prog 68 #[.int .i64 n, .int .i64 r] W fun e w' => ∃ v, e = .returned v ∧ SL W.heap.size w'.heap.size w' v (atD n r n).2 ∧ Below W.heap.size W w') := fun W => l07At_any n r W h1 h2 hr
  have hf := fac_le n h2
  have HF : Hid (∀ W : World, Calls Try.prog 61 #[.int .i64 n] W fun e w' => e = .returned (.int .i64 (fac n : Nat)) ∧ W = w') := fun W => all_any n W h2
  obtain ⟨F, hF⟩ : ∃ F, fac n = F := ⟨_, rfl⟩
  rw [hF] at HF hf hr
  have HI : Hid (∀ W : World, Calls Try.prog 56 #[.int .i64 r, .int .i64 0, .int .i64 ((F : Int) - 1)] W fun e w' => e = .returned (.bool true) ∧ W = w') := fun W => l00In_yes _ _ _ _ (by omega) (by omega)
  clear hF hr
  go_enter Try.func29, Try.ntmps29
  go_wp2_with (first | (go_at_call 67; with_reducible refine (HM.out _).mono ?_; rintro e w1 ⟨rfl, rfl⟩) | (go_at_call 56; with_reducible refine (HI.out _).mono ?_; rintro e w1 ⟨rfl, rfl⟩) | (go_at_call 61; with_reducible refine (HF.out _).mono ?_; rintro e w1 ⟨rfl, rfl⟩) | (go_at_call 68; with_reducible refine (HA.out _).mono ?_; rintro e w1 ⟨v, rfl, hv, hb⟩))
  go_ret2
  exact ⟨_, rfl, hv, hb⟩
theorem specOrderAt_no (n r : Int) (w : World) (h : ¬ AtP n r) :
    Calls Try.prog 29 #[.int .i64 n, .int .i64 r] w (ListRet w [] false) := by
  by_cases hn : 1 ≤ n ∧ n ≤ 12
  · obtain ⟨N, rfl⟩ := Int.eq_ofNat_of_zero_le (show 0 ≤ n by omega)
    have hf := fac_le N (by omega)
    have HM : Hid (∀ W : World, Calls Try.prog 67 #[.int .i64 N] W fun e w' => e = .returned (.bool true) ∧ W = w') := fun W => many7_b N true W (decide_eq_true hn)
    have hr : ¬ (0 ≤ r ∧ r ≤ (fac N : Int) - 1) := fun y => h ⟨hn, y.1, by simp only [Int.toNat_natCast]; omega⟩
    have HF : Hid (∀ W : World, Calls Try.prog 61 #[.int .i64 N] W fun e w' => e = .returned (.int .i64 (fac N : Nat)) ∧ W = w') := fun W => all_any N W (by omega)
    obtain ⟨F, hF⟩ : ∃ F, fac N = F := ⟨_, rfl⟩
    rw [hF] at HF hf hr
    have HI : Hid (∀ W : World, Calls Try.prog 56 #[.int .i64 r, .int .i64 0, .int .i64 ((F : Int) - 1)] W fun e w' => e = .returned (.bool false) ∧ W = w') := fun W => l00In_no _ _ _ _ hr
    clear h hn hr hF
    go_enter Try.func29, Try.ntmps29
    go_wp2_with (first | (go_at_call 67; with_reducible refine (HM.out _).mono ?_; rintro e w1 ⟨rfl, rfl⟩) | (go_at_call 56; with_reducible refine (HI.out _).mono ?_; rintro e w1 ⟨rfl, rfl⟩) | (go_at_call 61; with_reducible refine (HF.out _).mono ?_; rintro e w1 ⟨rfl, rfl⟩))
    go_ret2
    exact ⟨_, rfl, .inl ⟨rfl, rfl⟩, Below.refl _ _⟩
  · have HM : Hid (∀ W : World, Calls Try.prog 67 #[.int .i64 n] W fun e w' => e = .returned (.bool false) ∧ W = w') := fun W => many7_b n false W (decide_eq_false hn)
    clear h hn
    go_enter Try.func29, Try.ntmps29
    go_wp2_with (go_at_call 67; with_reducible refine (HM.out _).mono ?_; rintro e w1 ⟨rfl, rfl⟩)
    go_ret2
    exact ⟨_, rfl, .inl ⟨rfl, rfl⟩, Below.refl _ _⟩
theorem lawOrderAt (n r : Int) (w : World) :
    Calls Try.prog 8 #[.int .i64 n, .int .i64 r] w fun e w' => e = .returned (.bool true) ∧ Below w.heap.size w w' := by
  by_cases h : AtP n r
  · obtain ⟨h1, h2, h3⟩ := h
    obtain ⟨N, rfl⟩ := Int.eq_ofNat_of_zero_le (show 0 ≤ n by omega)
    obtain ⟨R, rfl⟩ := Int.eq_ofNat_of_zero_le h2
    simp only [Int.toNat_natCast] at h3
    have hl : (atD N R N).2.length ≤ 400 := by rw [(atD_length N R N (Nat.le_refl _)).2]; omega
    exact lawOrderAt_core N R (atD N R N).2 true w hl (fun W => specOrderAt_yes N R W (by omega) (by omega) (by omega)) (fun W => orderAt_yes N R W (by omega) (by omega) (by omega))
  · exact lawOrderAt_core n r [] false w (by simp) (fun W => specOrderAt_no n r W h) (fun W => orderAt_no n r W h)
end Go.Proofs.Ytjbojamhnapkpab
