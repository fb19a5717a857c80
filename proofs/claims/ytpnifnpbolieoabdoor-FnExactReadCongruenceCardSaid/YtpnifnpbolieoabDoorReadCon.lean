/- Congruences read: impl.ReadCongruence, spec.l03Read, and the law FnExactReadCongruence. -/
import Derived.Test.YtpnifnpbolieoabDoorReadListL
import Derived.Test.YtpnifnpbolieoabDoorConPow
namespace Go.Proofs.YtpnifnpbolieoabDoor
open Go.RowKit Go.PlainAid
set_option maxHeartbeats 3200000

theorem num_pair (s : ByteArray) (hs : s.size ≤ 1048576) (w : World) (ht : Tabs w) (hm : MaxN w) : ∃ xs ok, xs.length ≤ 64 ∧ (∀ W, Below w.heap.size w W → GivesR 56 s xs ok W) ∧ ∀ W, Below w.heap.size w W → GivesR 21 s xs ok W := by
  by_cases hn : s = ⟨#[110, 111, 110, 101]⟩
  · subst hn
    exact ⟨[], true, Nat.zero_le _, fun W _ => specNum_none W, fun W _ => implNum_none W⟩
  · by_cases hx : ∃ xs, NumsOf s.data.toList xs
    · obtain ⟨xs, hx⟩ := hx
      refine ⟨xs, true, hx.1, fun W _ => ?_, fun W hW => ?_⟩
      · refine (l01Numbers_any s W hs hn).mono ?_
        rintro e w' (⟨v, ys, he, hy, hl, hb⟩ | ⟨_, h, _⟩)
        · rw [nums_one hx hy]
          exact ⟨v, he, hl, hb⟩
        · exact absurd hx (h xs)
      · refine (readList_any s W hs hn (ht.on hW) (hm.on hW)).mono ?_
        rintro e w' (⟨v, ys, he, hy, hl, hb⟩ | ⟨_, h, _⟩)
        · rw [nums_one hx hy]
          exact ⟨v, he, hl, hb⟩
        · exact absurd hx (h xs)
    · refine ⟨[], false, Nat.zero_le _, fun W _ => ?_, fun W hW => ?_⟩
      · refine (l01Numbers_any s W hs hn).mono ?_
        rintro e w' (⟨_, ys, _, hy, _⟩ | ⟨he, _, hb⟩)
        · exact absurd ⟨ys, hy⟩ hx
        · exact ⟨_, he, .inl ⟨rfl, rfl⟩, hb⟩
      · refine (readList_any s W hs hn (ht.on hW) (hm.on hW)).mono ?_
        rintro e w' (⟨_, ys, _, hy, _⟩ | ⟨he, _, hb⟩)
        · exact absurd ⟨ys, hy⟩ hx
        · exact ⟨_, he, .inl ⟨rfl, rfl⟩, hb⟩
theorem sl_three {base top : Nat} {w : World} {v : Value} {x y z : Int} (h : SL base top w v [x, y, z]) : ∃ g cap, v = .slice (some ⟨g, 0, none⟩) 3 cap ∧ g < top ∧ w.cell? ⟨g, 0, none⟩ = some (.int .i64 x) ∧ w.cell? ⟨g, 1, none⟩ = some (.int .i64 y) ∧ w.cell? ⟨g, 2, none⟩ = some (.int .i64 z) := by
  rcases h with ⟨_, h⟩ | ⟨g, cap, rfl, _, _, h3, h4, _⟩
  · simp at h
  · exact ⟨g, cap, rfl, h3, h4 0 (by simp), h4 1 (by simp), h4 2 (by simp)⟩
theorem sl_any {base top : Nat} {w : World} {v : Value} {xs : List Int} (h : SL base top w v xs) : ∃ b cap, v = .slice b xs.length cap := by
  rcases h with ⟨rfl, rfl⟩ | ⟨g, cap, rfl, _⟩
  · exact ⟨none, 0, rfl⟩
  · exact ⟨_, _, rfl⟩
set_option maxRecDepth 8000 in
theorem readCon_fail (s : ByteArray) (xs : List Int) (w : World) (HL : Hid (∀ W, Below w.heap.size w W → GivesR 21 s xs false W)) :
    Calls Tryd.prog 34 #[.string s] w fun e w' => e = .returned (.tuple #[.agg #[.int .i64 0, .int .i64 0, .int .i64 0], .bool false]) ∧ Below w.heap.size w w' := by
  have HB0 : Hid (Below w.heap.size w (w.alloc (.cells #[.int .i64 0, .int .i64 0, .int .i64 0] 48)) ∧ C3 (w.alloc (.cells #[.int .i64 0, .int .i64 0, .int .i64 0] 48)) w.heap.size (.int .i64 0) (.int .i64 0) (.int .i64 0)) := ⟨(Below.refl _ _).alloc (Nat.le_refl _) _, C3.new w _ _ _ _⟩
  go_enter Tryd.func34, Tryd.ntmps34
  go_wp2_with fail
  refine (HL.out _ HB0.out.1).mono ?_
  rintro e w1 ⟨v, rfl, hs, hb⟩
  have B1 : Hid (Below w.heap.size w w1 ∧ C3 w1 w.heap.size (.int .i64 0) (.int .i64 0) (.int .i64 0)) := ⟨HB0.out.1.trans (hb.mono HB0.out.1.size), HB0.out.2.below hb HB0.out.2.lt⟩
  clear hb HB0 HL
  obtain ⟨b, cb, rfl⟩ := sl_any hs
  clear hs
  obtain ⟨⟨c5, d5, e5⟩, f5, f6, f7⟩ := B1.out.2
  have P := (C3.put ⟨⟨c5, d5, e5⟩, f5, f6, f7⟩ (.int .i64 0) (.int .i64 0) (.int .i64 0)).1
  unfold put3 at P
  obtain ⟨p0, p1, p2⟩ := P
  go_wp2
  exact bodyPost_ret (v := .tuple #[.agg #[.int .i64 0, .int .i64 0, .int .i64 0], .bool false]) (by simp [results, Tryd.results34, go_sem, p0, p1, p2]) rfl ⟨rfl, below_put3 B1.out.1 (Nat.le_refl _) _ _ _⟩
set_option maxRecDepth 8000 in
theorem readCon_len (s : ByteArray) (xs : List Int) (w : World) (hx : xs.length ≠ 3) (HL : Hid (∀ W, Below w.heap.size w W → GivesR 21 s xs true W)) :
    Calls Tryd.prog 34 #[.string s] w fun e w' => e = .returned (.tuple #[.agg #[.int .i64 0, .int .i64 0, .int .i64 0], .bool false]) ∧ Below w.heap.size w w' := by
  have HB0 : Hid (Below w.heap.size w (w.alloc (.cells #[.int .i64 0, .int .i64 0, .int .i64 0] 48)) ∧ C3 (w.alloc (.cells #[.int .i64 0, .int .i64 0, .int .i64 0] 48)) w.heap.size (.int .i64 0) (.int .i64 0) (.int .i64 0)) := ⟨(Below.refl _ _).alloc (Nat.le_refl _) _, C3.new w _ _ _ _⟩
  go_enter Tryd.func34, Tryd.ntmps34
  go_wp2_with fail
  refine (HL.out _ HB0.out.1).mono ?_
  rintro e w1 ⟨v, rfl, hs, hb⟩
  have B1 : Hid (Below w.heap.size w w1 ∧ C3 w1 w.heap.size (.int .i64 0) (.int .i64 0) (.int .i64 0)) := ⟨HB0.out.1.trans (hb.mono HB0.out.1.size), HB0.out.2.below hb HB0.out.2.lt⟩
  clear hb HB0 HL
  obtain ⟨b, cb, rfl⟩ := sl_any hs
  clear hs
  have t1 : ((xs.length : Int) != 3) = true := by simp; omega
  obtain ⟨n, hn⟩ : ∃ n, xs.length = n := ⟨_, rfl⟩
  rw [hn] at t1 ⊢
  clear hn hx
  obtain ⟨⟨c5, d5, e5⟩, f5, f6, f7⟩ := B1.out.2
  have P := (C3.put ⟨⟨c5, d5, e5⟩, f5, f6, f7⟩ (.int .i64 0) (.int .i64 0) (.int .i64 0)).1
  unfold put3 at P
  obtain ⟨p0, p1, p2⟩ := P
  go_wp2
  exact bodyPost_ret (v := .tuple #[.agg #[.int .i64 0, .int .i64 0, .int .i64 0], .bool false]) (by simp [results, Tryd.results34, go_sem, p0, p1, p2]) rfl ⟨rfl, below_put3 B1.out.1 (Nat.le_refl _) _ _ _⟩
set_option maxRecDepth 8000 in
theorem readCon_yes (s : ByteArray) (x y z : Int) (w : World) (hv : ConP x y z) (HL : Hid (∀ W, Below w.heap.size w W → GivesR 21 s [x, y, z] true W)) :
    Calls Tryd.prog 34 #[.string s] w fun e w' => e = .returned (.tuple #[.agg #[.int .i64 x, .int .i64 y, .int .i64 z], .bool true]) ∧ Below w.heap.size w w' := by
  have HB0 : Hid (Below w.heap.size w (w.alloc (.cells #[.int .i64 0, .int .i64 0, .int .i64 0] 48)) ∧ C3 (w.alloc (.cells #[.int .i64 0, .int .i64 0, .int .i64 0] 48)) w.heap.size (.int .i64 0) (.int .i64 0) (.int .i64 0)) := ⟨(Below.refl _ _).alloc (Nat.le_refl _) _, C3.new w _ _ _ _⟩
  have HV := Lib.hid hv
  clear hv
  have hmx : Tryd.prog.follows .mixedOrders = true := by kernel_rfl
  go_enter Tryd.func34, Tryd.ntmps34
  go_wp2_with fail
  refine (HL.out _ HB0.out.1).mono ?_
  rintro e w1 ⟨v, rfl, hs, hb⟩
  have B1 : Hid (Below w.heap.size w w1 ∧ C3 w1 w.heap.size (.int .i64 0) (.int .i64 0) (.int .i64 0)) := ⟨HB0.out.1.trans (hb.mono HB0.out.1.size), HB0.out.2.below hb HB0.out.2.lt⟩
  clear hb HB0 HL
  obtain ⟨g, cb, rfl, hg, x0, x1, x2⟩ := sl_three hs
  clear hs
  go_wp2
  have hgne : ¬ w1.heap.size = g := by omega
  have hgne2 : ¬ g = w1.heap.size := by omega
  go_region
  have hB4 : Hid (Below w.heap.size w ((w1.alloc (.cells #[.int .i64 x, .int .i64 y, .int .i64 z] 48)).drew) ∧ C3 ((w1.alloc (.cells #[.int .i64 x, .int .i64 y, .int .i64 z] 48)).drew) w.heap.size (.int .i64 0) (.int .i64 0) (.int .i64 0) ∧ C3 ((w1.alloc (.cells #[.int .i64 x, .int .i64 y, .int .i64 z] 48)).drew) w1.heap.size (.int .i64 x) (.int .i64 y) (.int .i64 z)) := ⟨(B1.out.1.alloc B1.out.1.size _).drew, (B1.out.2.alloc _).drew, (C3.new w1 _ _ _ _).drew⟩
  have z3 := B1.out.2.lt
  generalize (w1.alloc (.cells #[.int .i64 x, .int .i64 y, .int .i64 z] 48)).drew = w3 at hB4 ⊢
  generalize w1.heap.size = G at hB4 z3 ⊢
  clear B1 x0 x1 x2 hgne hgne2 hg
  obtain ⟨⟨l0, l1, l2⟩, _⟩ := hB4.out.2.2
  go_wp2_with fail
  clear l0 l1 l2
  refine (validK_b x y z true _ (decide_eq_true HV.out)).mono ?_
  rintro e w4 ⟨rfl, hb⟩
  have B4 : Hid (Below w.heap.size w w4 ∧ C3 w4 w.heap.size (.int .i64 0) (.int .i64 0) (.int .i64 0) ∧ C3 w4 G (.int .i64 x) (.int .i64 y) (.int .i64 z)) := ⟨hB4.out.1.trans (hb.mono hB4.out.1.size), hB4.out.2.1.below hb hB4.out.2.1.lt, hB4.out.2.2.below hb hB4.out.2.2.lt⟩
  clear hb hB4
  obtain ⟨⟨c4, d4, e4⟩, _⟩ := B4.out.2.2
  obtain ⟨⟨c5, d5, e5⟩, f5, f6, f7⟩ := B4.out.2.1
  have z5 : ¬ G = w.heap.size := by omega
  have z6 : ¬ w.heap.size = G := by omega
  have P := (C3.put ⟨⟨c5, d5, e5⟩, f5, f6, f7⟩ (.int .i64 x) (.int .i64 y) (.int .i64 z)).1
  unfold put3 at P
  obtain ⟨p0, p1, p2⟩ := P
  go_wp2
  exact bodyPost_ret (v := .tuple #[.agg #[.int .i64 x, .int .i64 y, .int .i64 z], .bool true]) (by simp [results, Tryd.results34, go_sem, p0, p1, p2]) rfl ⟨rfl, below_put3 B4.out.1 (Nat.le_refl _) _ _ _⟩
set_option maxRecDepth 8000 in
theorem readCon_no (s : ByteArray) (x y z : Int) (w : World) (hv : ¬ ConP x y z) (HL : Hid (∀ W, Below w.heap.size w W → GivesR 21 s [x, y, z] true W)) :
    Calls Tryd.prog 34 #[.string s] w fun e w' => e = .returned (.tuple #[.agg #[.int .i64 0, .int .i64 0, .int .i64 0], .bool false]) ∧ Below w.heap.size w w' := by
  have HB0 : Hid (Below w.heap.size w (w.alloc (.cells #[.int .i64 0, .int .i64 0, .int .i64 0] 48)) ∧ C3 (w.alloc (.cells #[.int .i64 0, .int .i64 0, .int .i64 0] 48)) w.heap.size (.int .i64 0) (.int .i64 0) (.int .i64 0)) := ⟨(Below.refl _ _).alloc (Nat.le_refl _) _, C3.new w _ _ _ _⟩
  have HV := Lib.hid hv
  clear hv
  have hmx : Tryd.prog.follows .mixedOrders = true := by kernel_rfl
  go_enter Tryd.func34, Tryd.ntmps34
  go_wp2_with fail
  refine (HL.out _ HB0.out.1).mono ?_
  rintro e w1 ⟨v, rfl, hs, hb⟩
  have B1 : Hid (Below w.heap.size w w1 ∧ C3 w1 w.heap.size (.int .i64 0) (.int .i64 0) (.int .i64 0)) := ⟨HB0.out.1.trans (hb.mono HB0.out.1.size), HB0.out.2.below hb HB0.out.2.lt⟩
  clear hb HB0 HL
  obtain ⟨g, cb, rfl, hg, x0, x1, x2⟩ := sl_three hs
  clear hs
  go_wp2
  have hgne : ¬ w1.heap.size = g := by omega
  have hgne2 : ¬ g = w1.heap.size := by omega
  go_region
  have hB4 : Hid (Below w.heap.size w ((w1.alloc (.cells #[.int .i64 x, .int .i64 y, .int .i64 z] 48)).drew) ∧ C3 ((w1.alloc (.cells #[.int .i64 x, .int .i64 y, .int .i64 z] 48)).drew) w.heap.size (.int .i64 0) (.int .i64 0) (.int .i64 0) ∧ C3 ((w1.alloc (.cells #[.int .i64 x, .int .i64 y, .int .i64 z] 48)).drew) w1.heap.size (.int .i64 x) (.int .i64 y) (.int .i64 z)) := ⟨(B1.out.1.alloc B1.out.1.size _).drew, (B1.out.2.alloc _).drew, (C3.new w1 _ _ _ _).drew⟩
  have z3 := B1.out.2.lt
  generalize (w1.alloc (.cells #[.int .i64 x, .int .i64 y, .int .i64 z] 48)).drew = w3 at hB4 ⊢
  generalize w1.heap.size = G at hB4 z3 ⊢
  clear B1 x0 x1 x2 hgne hgne2 hg
  obtain ⟨⟨l0, l1, l2⟩, _⟩ := hB4.out.2.2
  go_wp2_with fail
  clear l0 l1 l2
  refine (validK_b x y z false _ (decide_eq_false HV.out)).mono ?_
  rintro e w4 ⟨rfl, hb⟩
  have B4 : Hid (Below w.heap.size w w4 ∧ C3 w4 w.heap.size (.int .i64 0) (.int .i64 0) (.int .i64 0) ∧ C3 w4 G (.int .i64 x) (.int .i64 y) (.int .i64 z)) := ⟨hB4.out.1.trans (hb.mono hB4.out.1.size), hB4.out.2.1.below hb hB4.out.2.1.lt, hB4.out.2.2.below hb hB4.out.2.2.lt⟩
  clear hb hB4
  obtain ⟨⟨c4, d4, e4⟩, _⟩ := B4.out.2.2
  obtain ⟨⟨c5, d5, e5⟩, f5, f6, f7⟩ := B4.out.2.1
  have z5 : ¬ G = w.heap.size := by omega
  have z6 : ¬ w.heap.size = G := by omega
  have P := (C3.put ⟨⟨c5, d5, e5⟩, f5, f6, f7⟩ (.int .i64 0) (.int .i64 0) (.int .i64 0)).1
  unfold put3 at P
  obtain ⟨p0, p1, p2⟩ := P
  go_wp2
  exact bodyPost_ret (v := .tuple #[.agg #[.int .i64 0, .int .i64 0, .int .i64 0], .bool false]) (by simp [results, Tryd.results34, go_sem, p0, p1, p2]) rfl ⟨rfl, below_put3 B4.out.1 (Nat.le_refl _) _ _ _⟩
set_option maxRecDepth 8000 in
theorem l03Read_fail (s : ByteArray) (xs : List Int) (w : World) (HL : Hid (∀ W, Below w.heap.size w W → GivesR 56 s xs false W)) :
    Calls Tryd.prog 66 #[.string s] w fun e w' => e = .returned (.tuple #[.agg #[.int .i64 0, .int .i64 0, .int .i64 0], .bool false]) ∧ Below w.heap.size w w' := by
  have HB0 : Hid (Below w.heap.size w (w.alloc (.cells #[.int .i64 0, .int .i64 0, .int .i64 0] 48)) ∧ C3 (w.alloc (.cells #[.int .i64 0, .int .i64 0, .int .i64 0] 48)) w.heap.size (.int .i64 0) (.int .i64 0) (.int .i64 0)) := ⟨(Below.refl _ _).alloc (Nat.le_refl _) _, C3.new w _ _ _ _⟩
  go_enter Tryd.func66, Tryd.ntmps66
  go_wp2_with fail
  refine (HL.out _ HB0.out.1).mono ?_
  rintro e w1 ⟨v, rfl, hs, hb⟩
  have B1 : Hid (Below w.heap.size w w1 ∧ C3 w1 w.heap.size (.int .i64 0) (.int .i64 0) (.int .i64 0)) := ⟨HB0.out.1.trans (hb.mono HB0.out.1.size), HB0.out.2.below hb HB0.out.2.lt⟩
  clear hb HB0 HL
  obtain ⟨b, cb, rfl⟩ := sl_any hs
  clear hs
  obtain ⟨⟨c5, d5, e5⟩, f5, f6, f7⟩ := B1.out.2
  have P := (C3.put ⟨⟨c5, d5, e5⟩, f5, f6, f7⟩ (.int .i64 0) (.int .i64 0) (.int .i64 0)).1
  unfold put3 at P
  obtain ⟨p0, p1, p2⟩ := P
  go_wp2
  exact bodyPost_ret (v := .tuple #[.agg #[.int .i64 0, .int .i64 0, .int .i64 0], .bool false]) (by simp [results, Tryd.results66, go_sem, p0, p1, p2]) rfl ⟨rfl, below_put3 B1.out.1 (Nat.le_refl _) _ _ _⟩
set_option maxRecDepth 8000 in
theorem l03Read_len (s : ByteArray) (xs : List Int) (w : World) (hx : xs.length ≠ 3) (HL : Hid (∀ W, Below w.heap.size w W → GivesR 56 s xs true W)) :
    Calls Tryd.prog 66 #[.string s] w fun e w' => e = .returned (.tuple #[.agg #[.int .i64 0, .int .i64 0, .int .i64 0], .bool false]) ∧ Below w.heap.size w w' := by
  have HB0 : Hid (Below w.heap.size w (w.alloc (.cells #[.int .i64 0, .int .i64 0, .int .i64 0] 48)) ∧ C3 (w.alloc (.cells #[.int .i64 0, .int .i64 0, .int .i64 0] 48)) w.heap.size (.int .i64 0) (.int .i64 0) (.int .i64 0)) := ⟨(Below.refl _ _).alloc (Nat.le_refl _) _, C3.new w _ _ _ _⟩
  go_enter Tryd.func66, Tryd.ntmps66
  go_wp2_with fail
  refine (HL.out _ HB0.out.1).mono ?_
  rintro e w1 ⟨v, rfl, hs, hb⟩
  have B1 : Hid (Below w.heap.size w w1 ∧ C3 w1 w.heap.size (.int .i64 0) (.int .i64 0) (.int .i64 0)) := ⟨HB0.out.1.trans (hb.mono HB0.out.1.size), HB0.out.2.below hb HB0.out.2.lt⟩
  clear hb HB0 HL
  obtain ⟨b, cb, rfl⟩ := sl_any hs
  clear hs
  have t1 : ((xs.length : Int) != 3) = true := by simp; omega
  obtain ⟨n, hn⟩ : ∃ n, xs.length = n := ⟨_, rfl⟩
  rw [hn] at t1 ⊢
  clear hn hx
  obtain ⟨⟨c5, d5, e5⟩, f5, f6, f7⟩ := B1.out.2
  have P := (C3.put ⟨⟨c5, d5, e5⟩, f5, f6, f7⟩ (.int .i64 0) (.int .i64 0) (.int .i64 0)).1
  unfold put3 at P
  obtain ⟨p0, p1, p2⟩ := P
  go_wp2
  exact bodyPost_ret (v := .tuple #[.agg #[.int .i64 0, .int .i64 0, .int .i64 0], .bool false]) (by simp [results, Tryd.results66, go_sem, p0, p1, p2]) rfl ⟨rfl, below_put3 B1.out.1 (Nat.le_refl _) _ _ _⟩
set_option maxRecDepth 8000 in
theorem l03Read_yes (s : ByteArray) (x y z : Int) (w : World) (hv : ConP x y z) (HL : Hid (∀ W, Below w.heap.size w W → GivesR 56 s [x, y, z] true W)) :
    Calls Tryd.prog 66 #[.string s] w fun e w' => e = .returned (.tuple #[.agg #[.int .i64 x, .int .i64 y, .int .i64 z], .bool true]) ∧ Below w.heap.size w w' := by
  have HB0 : Hid (Below w.heap.size w (w.alloc (.cells #[.int .i64 0, .int .i64 0, .int .i64 0] 48)) ∧ C3 (w.alloc (.cells #[.int .i64 0, .int .i64 0, .int .i64 0] 48)) w.heap.size (.int .i64 0) (.int .i64 0) (.int .i64 0)) := ⟨(Below.refl _ _).alloc (Nat.le_refl _) _, C3.new w _ _ _ _⟩
  have HV := Lib.hid hv
  clear hv
  have hmx : Tryd.prog.follows .mixedOrders = true := by kernel_rfl
  go_enter Tryd.func66, Tryd.ntmps66
  go_wp2_with fail
  refine (HL.out _ HB0.out.1).mono ?_
  rintro e w1 ⟨v, rfl, hs, hb⟩
  have B1 : Hid (Below w.heap.size w w1 ∧ C3 w1 w.heap.size (.int .i64 0) (.int .i64 0) (.int .i64 0)) := ⟨HB0.out.1.trans (hb.mono HB0.out.1.size), HB0.out.2.below hb HB0.out.2.lt⟩
  clear hb HB0 HL
  obtain ⟨g, cb, rfl, hg, x0, x1, x2⟩ := sl_three hs
  clear hs
  go_wp2
  have hgne : ¬ w1.heap.size = g := by omega
  have hgne2 : ¬ g = w1.heap.size := by omega
  go_region
  have hB4 : Hid (Below w.heap.size w ((w1.alloc (.cells #[.int .i64 x, .int .i64 y, .int .i64 z] 48)).drew) ∧ C3 ((w1.alloc (.cells #[.int .i64 x, .int .i64 y, .int .i64 z] 48)).drew) w.heap.size (.int .i64 0) (.int .i64 0) (.int .i64 0) ∧ C3 ((w1.alloc (.cells #[.int .i64 x, .int .i64 y, .int .i64 z] 48)).drew) w1.heap.size (.int .i64 x) (.int .i64 y) (.int .i64 z)) := ⟨(B1.out.1.alloc B1.out.1.size _).drew, (B1.out.2.alloc _).drew, (C3.new w1 _ _ _ _).drew⟩
  have z3 := B1.out.2.lt
  generalize (w1.alloc (.cells #[.int .i64 x, .int .i64 y, .int .i64 z] 48)).drew = w3 at hB4 ⊢
  generalize w1.heap.size = G at hB4 z3 ⊢
  clear B1 x0 x1 x2 hgne hgne2 hg
  go_wp2_with fail
  refine (l03Is_b G x y z true _ hB4.out.2.2.1.1 hB4.out.2.2.1.2.1 hB4.out.2.2.1.2.2 (decide_eq_true HV.out)).mono ?_
  rintro e w4 ⟨rfl, n4, hw4⟩
  have B4 : Hid (Below w.heap.size w w4 ∧ C3 w4 w.heap.size (.int .i64 0) (.int .i64 0) (.int .i64 0) ∧ C3 w4 G (.int .i64 x) (.int .i64 y) (.int .i64 z)) := by
    rw [hw4]
    exact ⟨below_drewN hB4.out.1 n4, hB4.out.2.1.drewN n4, hB4.out.2.2.drewN n4⟩
  clear hw4 hB4
  obtain ⟨⟨c4, d4, e4⟩, _⟩ := B4.out.2.2
  obtain ⟨⟨c5, d5, e5⟩, f5, f6, f7⟩ := B4.out.2.1
  have z5 : ¬ G = w.heap.size := by omega
  have z6 : ¬ w.heap.size = G := by omega
  have P := (C3.put ⟨⟨c5, d5, e5⟩, f5, f6, f7⟩ (.int .i64 x) (.int .i64 y) (.int .i64 z)).1
  unfold put3 at P
  obtain ⟨p0, p1, p2⟩ := P
  go_wp2
  exact bodyPost_ret (v := .tuple #[.agg #[.int .i64 x, .int .i64 y, .int .i64 z], .bool true]) (by simp [results, Tryd.results66, go_sem, p0, p1, p2]) rfl ⟨rfl, below_put3 B4.out.1 (Nat.le_refl _) _ _ _⟩
set_option maxRecDepth 8000 in
theorem l03Read_no (s : ByteArray) (x y z : Int) (w : World) (hv : ¬ ConP x y z) (HL : Hid (∀ W, Below w.heap.size w W → GivesR 56 s [x, y, z] true W)) :
    Calls Tryd.prog 66 #[.string s] w fun e w' => e = .returned (.tuple #[.agg #[.int .i64 0, .int .i64 0, .int .i64 0], .bool false]) ∧ Below w.heap.size w w' := by
  have HB0 : Hid (Below w.heap.size w (w.alloc (.cells #[.int .i64 0, .int .i64 0, .int .i64 0] 48)) ∧ C3 (w.alloc (.cells #[.int .i64 0, .int .i64 0, .int .i64 0] 48)) w.heap.size (.int .i64 0) (.int .i64 0) (.int .i64 0)) := ⟨(Below.refl _ _).alloc (Nat.le_refl _) _, C3.new w _ _ _ _⟩
  have HV := Lib.hid hv
  clear hv
  have hmx : Tryd.prog.follows .mixedOrders = true := by kernel_rfl
  go_enter Tryd.func66, Tryd.ntmps66
  go_wp2_with fail
  refine (HL.out _ HB0.out.1).mono ?_
  rintro e w1 ⟨v, rfl, hs, hb⟩
  have B1 : Hid (Below w.heap.size w w1 ∧ C3 w1 w.heap.size (.int .i64 0) (.int .i64 0) (.int .i64 0)) := ⟨HB0.out.1.trans (hb.mono HB0.out.1.size), HB0.out.2.below hb HB0.out.2.lt⟩
  clear hb HB0 HL
  obtain ⟨g, cb, rfl, hg, x0, x1, x2⟩ := sl_three hs
  clear hs
  go_wp2
  have hgne : ¬ w1.heap.size = g := by omega
  have hgne2 : ¬ g = w1.heap.size := by omega
  go_region
  have hB4 : Hid (Below w.heap.size w ((w1.alloc (.cells #[.int .i64 x, .int .i64 y, .int .i64 z] 48)).drew) ∧ C3 ((w1.alloc (.cells #[.int .i64 x, .int .i64 y, .int .i64 z] 48)).drew) w.heap.size (.int .i64 0) (.int .i64 0) (.int .i64 0) ∧ C3 ((w1.alloc (.cells #[.int .i64 x, .int .i64 y, .int .i64 z] 48)).drew) w1.heap.size (.int .i64 x) (.int .i64 y) (.int .i64 z)) := ⟨(B1.out.1.alloc B1.out.1.size _).drew, (B1.out.2.alloc _).drew, (C3.new w1 _ _ _ _).drew⟩
  have z3 := B1.out.2.lt
  generalize (w1.alloc (.cells #[.int .i64 x, .int .i64 y, .int .i64 z] 48)).drew = w3 at hB4 ⊢
  generalize w1.heap.size = G at hB4 z3 ⊢
  clear B1 x0 x1 x2 hgne hgne2 hg
  go_wp2_with fail
  refine (l03Is_b G x y z false _ hB4.out.2.2.1.1 hB4.out.2.2.1.2.1 hB4.out.2.2.1.2.2 (decide_eq_false HV.out)).mono ?_
  rintro e w4 ⟨rfl, n4, hw4⟩
  have B4 : Hid (Below w.heap.size w w4 ∧ C3 w4 w.heap.size (.int .i64 0) (.int .i64 0) (.int .i64 0) ∧ C3 w4 G (.int .i64 x) (.int .i64 y) (.int .i64 z)) := by
    rw [hw4]
    exact ⟨below_drewN hB4.out.1 n4, hB4.out.2.1.drewN n4, hB4.out.2.2.drewN n4⟩
  clear hw4 hB4
  obtain ⟨⟨c4, d4, e4⟩, _⟩ := B4.out.2.2
  obtain ⟨⟨c5, d5, e5⟩, f5, f6, f7⟩ := B4.out.2.1
  have z5 : ¬ G = w.heap.size := by omega
  have z6 : ¬ w.heap.size = G := by omega
  have P := (C3.put ⟨⟨c5, d5, e5⟩, f5, f6, f7⟩ (.int .i64 0) (.int .i64 0) (.int .i64 0)).1
  unfold put3 at P
  obtain ⟨p0, p1, p2⟩ := P
  go_wp2
  exact bodyPost_ret (v := .tuple #[.agg #[.int .i64 0, .int .i64 0, .int .i64 0], .bool false]) (by simp [results, Tryd.results66, go_sem, p0, p1, p2]) rfl ⟨rfl, below_put3 B4.out.1 (Nat.le_refl _) _ _ _⟩
theorem specRCon_of (s : ByteArray) (x y z : Int) (ok : Bool) (w : World)
    (HS : Hid (∀ W, Below w.heap.size w W → Calls Tryd.prog 66 #[.string s] W fun e w' => e = .returned (.tuple #[.agg #[.int .i64 x, .int .i64 y, .int .i64 z], .bool ok]) ∧ Below W.heap.size W w')) :
    Calls Tryd.prog 33 #[.string s] w fun e w' => e = .returned (.tuple #[.agg #[.int .i64 x, .int .i64 y, .int .i64 z], .bool ok]) ∧ Below w.heap.size w w' := by
  have HB0 : Hid (Below w.heap.size w (w.alloc (.cells #[.int .i64 0, .int .i64 0, .int .i64 0] 48)) ∧ C3 (w.alloc (.cells #[.int .i64 0, .int .i64 0, .int .i64 0] 48)) w.heap.size (.int .i64 0) (.int .i64 0) (.int .i64 0)) := ⟨(Below.refl _ _).alloc (Nat.le_refl _) _, C3.new w _ _ _ _⟩
  go_enter Tryd.func33, Tryd.ntmps33
  go_wp2_with fail
  refine (HS.out _ HB0.out.1).mono ?_
  rintro e w1 ⟨rfl, hb⟩
  have B1 : Hid (Below w.heap.size w w1 ∧ C3 w1 w.heap.size (.int .i64 0) (.int .i64 0) (.int .i64 0)) := ⟨HB0.out.1.trans (hb.mono HB0.out.1.size), HB0.out.2.below hb HB0.out.2.lt⟩
  clear hb HB0 HS
  obtain ⟨⟨c5, d5, e5⟩, f5, f6, f7⟩ := B1.out.2
  have P := (C3.put ⟨⟨c5, d5, e5⟩, f5, f6, f7⟩ (.int .i64 x) (.int .i64 y) (.int .i64 z)).1
  unfold put3 at P
  obtain ⟨p0, p1, p2⟩ := P
  go_wp2
  exact bodyPost_ret (v := .tuple #[.agg #[.int .i64 x, .int .i64 y, .int .i64 z], .bool ok]) (by simp [results, Tryd.results33, go_sem, p0, p1, p2]) rfl ⟨rfl, below_put3 B1.out.1 (Nat.le_refl _) _ _ _⟩
theorem eqCon_same (m a c : Int) (w : World) :
    Calls Tryd.prog 35 #[.agg #[.int .i64 m, .int .i64 a, .int .i64 c], .agg #[.int .i64 m, .int .i64 a, .int .i64 c]] w fun e w' => e = .returned (.bool true) ∧ Below w.heap.size w w' := by
  have e1 : (m != m) = false := by simp
  have e2 : (a != a) = false := by simp
  have e3 : (c != c) = false := by simp
  go_enter Tryd.func35, Tryd.ntmps35
  go_wp2
  go_ret
  exact ⟨rfl, ((Below.refl _ w).alloc (Nat.le_refl _) _).alloc (by simp) _⟩
def GivesC (f : FuncId) (s : ByteArray) (x y z : Int) (ok : Bool) (W : World) : Prop := Calls Tryd.prog f #[.string s] W fun e w' => e = .returned (.tuple #[.agg #[.int .i64 x, .int .i64 y, .int .i64 z], .bool ok]) ∧ Below W.heap.size W w'
/-- one result for a text, of both -/
theorem con_pair (s : ByteArray) (hs : s.size ≤ 1048576) (w : World) (ht : Tabs w) (hm : MaxN w) : ∃ x y z ok, (∀ W, Below w.heap.size w W → GivesC 66 s x y z ok W) ∧ ∀ W, Below w.heap.size w W → GivesC 34 s x y z ok W := by
  obtain ⟨xs, ok, _, h1, h2⟩ := num_pair s hs w ht hm
  have up : ∀ {f : FuncId} {ys : List Int} {b : Bool}, (∀ W, Below w.heap.size w W → GivesR f s ys b W) → ∀ W, Below w.heap.size w W → Hid (∀ V, Below W.heap.size W V → GivesR f s ys b V) := fun h W hW V hV => h V (hW.trans (hV.mono hW.size))
  cases ok with
  | false => exact ⟨0, 0, 0, false, fun W hW => l03Read_fail s xs W (up h1 W hW), fun W hW => readCon_fail s xs W (up h2 W hW)⟩
  | true =>
    by_cases hx : xs.length = 3
    · obtain ⟨x, y, z, rfl⟩ : ∃ x y z, xs = [x, y, z] := by
        match xs, hx with
        | [x, y, z], _ => exact ⟨x, y, z, rfl⟩
      by_cases hv : ConP x y z
      · exact ⟨x, y, z, true, fun W hW => l03Read_yes s x y z W hv (up h1 W hW), fun W hW => readCon_yes s x y z W hv (up h2 W hW)⟩
      · exact ⟨0, 0, 0, false, fun W hW => l03Read_no s x y z W hv (up h1 W hW), fun W hW => readCon_no s x y z W hv (up h2 W hW)⟩
    · exact ⟨0, 0, 0, false, fun W hW => l03Read_len s xs W hx (up h1 W hW), fun W hW => readCon_len s xs W hx (up h2 W hW)⟩
theorem lawRCon_core (s : ByteArray) (x y z : Int) (ok : Bool) (w : World) (hs : s.size ≤ 1048576) (HS : Hid (∀ W, Below w.heap.size w W → GivesC 66 s x y z ok W)) (HI : Hid (∀ W, Below w.heap.size w W → GivesC 34 s x y z ok W)) :
    Calls Tryd.prog 10 #[.string s] w fun e w' => e = .returned (.bool true) ∧ Below w.heap.size w w' := by
  have t0 : decide ((1048576 : Int) < (s.size : Int)) = false := by simp; omega
  have hne2 : (ok != ok) = false := by simp
  go_enter Tryd.func10, Tryd.ntmps10
  go_wp2_with fail
  refine (specRCon_of s x y z ok w HS.out).mono ?_
  rintro e w1 ⟨rfl, hb1⟩
  go_wp2_with fail
  have L0 := C3.new w1 (.int .i64 x) (.int .i64 y) (.int .i64 z) 48
  have hB1 : Below w.heap.size w (w1.alloc (.cells #[.int .i64 x, .int .i64 y, .int .i64 z] 48)) := hb1.alloc hb1.size _
  generalize w1.heap.size = G at L0 ⊢
  generalize w1.alloc (.cells #[.int .i64 x, .int .i64 y, .int .i64 z] 48) = w2 at L0 hB1 ⊢
  clear hb1
  refine (HI.out _ hB1).mono ?_
  rintro e w3 ⟨rfl, hb⟩
  have K3 := Lib.hid (And.intro (L0.below hb L0.lt) (hB1.trans (hb.mono hB1.size)))
  clear hb L0 hB1
  have M0 : Hid (C3 (w3.alloc (.cells #[.int .i64 x, .int .i64 y, .int .i64 z] 48)) G (.int .i64 x) (.int .i64 y) (.int .i64 z) ∧ C3 (w3.alloc (.cells #[.int .i64 x, .int .i64 y, .int .i64 z] 48)) w3.heap.size (.int .i64 x) (.int .i64 y) (.int .i64 z) ∧ Below w.heap.size w (w3.alloc (.cells #[.int .i64 x, .int .i64 y, .int .i64 z] 48))) := ⟨K3.out.1.alloc _, C3.new w3 _ _ _ _, K3.out.2.alloc K3.out.2.size _⟩
  obtain ⟨⟨a0, a1, a2⟩, _⟩ := M0.out.1
  obtain ⟨⟨b0, b1, b2⟩, _⟩ := M0.out.2.1
  clear K3
  go_wp2_with fail
  clear a0 a1 a2 b0 b1 b2
  refine (eqCon_same _ _ _ _).mono ?_
  rintro e w4 ⟨rfl, hb⟩
  have K4 := Lib.hid (M0.out.2.2.trans (hb.mono M0.out.2.2.size))
  clear hb M0
  go_wp2
  go_ret
  exact ⟨rfl, K4.out⟩
theorem lawRCon (s : ByteArray) (w : World) (hmx : s.size ≤ maxLen) (ht : Tabs w) (hm : MaxN w) :
    Calls Tryd.prog 10 #[.string s] w fun e w' => e = .returned (.bool true) ∧ Below w.heap.size w w' := by
  by_cases hs : s.size ≤ 1048576
  · obtain ⟨x, y, z, ok, h1, h2⟩ := con_pair s hs w ht hm
    exact lawRCon_core s x y z ok w hs h1 h2
  · unfold maxLen at hmx
    have t0 : decide ((1048576 : Int) < (s.size : Int)) = true := by simp; omega
    clear ht hm
    go_enter Tryd.func10, Tryd.ntmps10
    go_wp2
    go_ret
    exact ⟨rfl, Below.refl _ _⟩
end Go.Proofs.YtpnifnpbolieoabDoor
