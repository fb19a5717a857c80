/- Choices that are read one by one, and shuffles by them. -/
import Derived.Test.YtciofobedgmbjabS7O
import Derived.Deep.RegionHeld3
namespace Go.Proofs.Ytciofobedgmbjab
open Go.RowKit Go.PlainAid
set_option maxHeartbeats 800000

/-- a reader in a block, from a cell on: the choices that are left, and whether it has failed -/
def CR (b o top : Nat) (cs : List Int) (f : Bool) (W : World) : Prop := top ≤ b ∧ ∃ a c, (W.cell? ⟨b, o, none⟩ = some (.slice a cs.length c) ∧ W.frozen? ⟨b, o, none⟩ = false) ∧ (W.cell? ⟨b, o + 1, none⟩ = some (.bool f) ∧ W.frozen? ⟨b, o + 1, none⟩ = false) ∧ RO top W a cs ∧ cs.length ≤ c
theorem CR.lt {b o top : Nat} {cs : List Int} {f : Bool} {W : World} (h : CR b o top cs f W) : b < W.heap.size := by
  obtain ⟨_, a, c, h, _⟩ := h
  exact World.block_lt_of_cell? W _ h.1
theorem CR.drewN {b o top : Nat} {cs : List Int} {f : Bool} {W : World} (h : CR b o top cs f W) (m : Nat) : CR b o top cs f (W.drewN m) := h
theorem CR.grown {b o top : Nat} {cs : List Int} {f : Bool} {W W' : World} {row : Option Nat} (h : CR b o top cs f W) (hg : W.grownBy W' row) (hne : row ≠ some b) (hr : ∀ g, row = some g → top ≤ g) : CR b o top cs f W' := by
  have hl := h.lt
  obtain ⟨h0, a, c, ⟨h1, h2⟩, ⟨h3, h4⟩, h5, h6⟩ := h
  have hb := hg.block b hl (Ne.symm hne)
  refine ⟨h0, a, c, ⟨(World.cell?_of_block (a := ⟨b, o, none⟩) hb).trans h1, (World.frozen?_of_block (a := ⟨b, o, none⟩) hb).trans h2⟩, ⟨(World.cell?_of_block (a := ⟨b, o + 1, none⟩) hb).trans h3, (World.frozen?_of_block (a := ⟨b, o + 1, none⟩) hb).trans h4⟩, fun i x hx => ?_, h6⟩
  obtain ⟨g, off, ha, hg2, hc⟩ := h5 i x hx
  refine ⟨g, off, ha, hg2, (World.cell?_of_block (a := ⟨g, off + i, none⟩) (hg.block g (by omega) (fun e => ?_))).trans hc⟩
  have := hr g e.symm
  omega
theorem RO.tail7 {top : Nat} {w : World} {g off : Nat} {x : Int} {xs : List Int} (h : RO top w (some ⟨g, off, none⟩) (x :: xs)) : RO top w (some ⟨g, off + 1, none⟩) xs := fun i y hy => by
  obtain ⟨g2, off2, he, hg, hc⟩ := h (i + 1) y hy
  cases he
  exact ⟨g, off + 1, rfl, hg, by rw [show off + 1 + i = off + (i + 1) by omega]; exact hc⟩
theorem RO.nil7 {top : Nat} {w : World} (a : Option Addr) : RO top w a [] := fun i x hx => by simp at hx
/-- the reader when a choice has been taken -/
theorem CR.took {b o top c2 : Nat} {a2 : Option Addr} {x : Int} {cs : List Int} {f : Bool} {W : World} (h : CR b o top (x :: cs) f W) (hr : RO top W a2 cs) (hc : cs.length ≤ c2) : CR b o top cs f (W.setCell ⟨b, o, none⟩ (.slice a2 cs.length c2)) := by
  obtain ⟨h0, a, c, ⟨h1, h2⟩, ⟨h3, h4⟩, h5, h6⟩ := h
  refine ⟨h0, a2, c2, ⟨World.cell?_setCell_same W _ _ h1, by rw [World.frozen?_setCell]; exact h2⟩, ⟨(cell_ne (by omega)).trans h3, by rw [World.frozen?_setCell]; exact h4⟩, fun i y hy => ?_, hc⟩
  obtain ⟨g, off, ha, hg, hcc⟩ := hr i y hy
  exact ⟨g, off, ha, hg, (World.cell?_setCell_other W _ _ _ (fun e => by have := congrArg Addr.block e; simp at this; omega)).trans hcc⟩
theorem CR.fail {b o top : Nat} {cs : List Int} {f : Bool} {W : World} (h : CR b o top cs f W) (v : Bool) : CR b o top cs v (W.setCell ⟨b, o + 1, none⟩ (.bool v)) := by
  obtain ⟨h0, a, c, ⟨h1, h2⟩, ⟨h3, h4⟩, h5, h6⟩ := h
  refine ⟨h0, a, c, ⟨(cell_ne (by omega)).trans h1, by rw [World.frozen?_setCell]; exact h2⟩, ⟨World.cell?_setCell_same W _ _ h3, by rw [World.frozen?_setCell]; exact h4⟩, fun i y hy => ?_, h6⟩
  obtain ⟨g, off, ha, hg, hcc⟩ := h5 i y hy
  exact ⟨g, off, ha, hg, (World.cell?_setCell_other W _ _ _ (fun e => by have := congrArg Addr.block e; simp at this; omega)).trans hcc⟩
theorem next7_any (b o top : Nat) (x : Int) (cs : List Int) (f : Bool) (gr : Int) (w : World) (h : CR b o top (x :: cs) f w) :
    Calls Try.prog 106 #[.pointer (some ⟨b, o, none⟩), .int .i64 gr] w fun e w' => e = .returned (.int .i64 (if 0 ≤ x ∧ x ≤ gr then x else 0)) ∧ CR b o top cs (if 0 ≤ x ∧ x ≤ gr then f else true) w' ∧ w.grownBy w' (some b) ∧ ∀ j, j < o → w'.cell? ⟨b, j, none⟩ = w.cell? ⟨b, j, none⟩ := by
  have H0 := Lib.hid h
  obtain ⟨_, a, c, ⟨h1, h2⟩, ⟨h3, h4⟩, h5, h6⟩ := h
  obtain ⟨g, off, rfl, hg, hc⟩ := h5 0 x rfl
  obtain ⟨m, hm⟩ : ∃ m, cs.length = m := ⟨_, rfl⟩
  obtain ⟨d, rfl⟩ : ∃ d, c = d + 1 := ⟨c - 1, by simp at h6; omega⟩
  rw [List.length_cons, hm] at h1 h6
  rw [Nat.add_zero] at hc
  have hmd : m ≤ d := by omega
  have K : ∃ a2 c2, (∀ W, (Instr.slice 31 (.slice (some ⟨g, off, none⟩) (m + 1) (d + 1)) (some (.int .i64 1)) none none).run Try.prog W = .ok (.slice a2 m c2) W) ∧ RO top w a2 cs ∧ m ≤ c2 := by
    have k1 : (1 : Int) ≤ (m : Int) + 1 := by omega
    by_cases hd : d = 0
    · subst hd
      obtain rfl : m = 0 := by omega
      obtain rfl := List.eq_nil_of_length_eq_zero hm
      exact ⟨some ⟨g, off, none⟩, 0, fun W => by kernel_rfl, RO.nil7 _, Nat.le_refl _⟩
    · refine ⟨some ⟨g, off + 1, none⟩, d, fun W => ?_, h5.tail7, hmd⟩
      simp [go_sem, Instr.slice, Instr.sliceBounds, Instr.sliceBound, hd, k1]
  obtain ⟨a2, c2, K1, K2, K3⟩ := K
  have H1 : Hid (CR b o top cs f (w.setCell ⟨b, o, none⟩ (.slice a2 m c2))) := by
    have := H0.out.took K2 (by rw [hm]; exact K3)
    rwa [hm] at this
  have G1 : Hid (w.grownBy (w.setCell ⟨b, o, none⟩ (.slice a2 m c2)) (some b)) := grow_set (World.grownBy.refl _ _) _ _
  clear K2 K3 hm h5
  by_cases hin : 0 ≤ x ∧ x ≤ gr
  · rw [if_pos hin, if_pos hin]
    have HI : Hid (∀ W : World, Calls Try.prog 74 #[.int .i64 x, .int .i64 0, .int .i64 gr] W fun e w' => e = .returned (.bool true) ∧ W = w') := fun W => btw64_yes _ _ _ W hin.1 hin.2
    clear hin
    go_enter Try.func106, Try.ntmps106
    go_wp2_with (go_at_call 74; with_reducible refine (HI.out _).mono ?_; rintro e w1 ⟨rfl, rfl⟩)
    go_ret
    exact ⟨rfl, H1.out, G1.out, fun j hj => cell_ne (by omega)⟩
  · rw [if_neg hin, if_neg hin]
    have HI : Hid (∀ W : World, Calls Try.prog 74 #[.int .i64 x, .int .i64 0, .int .i64 gr] W fun e w' => e = .returned (.bool false) ∧ W = w') := fun W => btw64_no _ _ _ W hin
    clear hin
    go_enter Try.func106, Try.ntmps106
    go_wp2_with (go_at_call 74; with_reducible refine (HI.out _).mono ?_; rintro e w1 ⟨rfl, rfl⟩)
    go_ret
    exact ⟨rfl, H1.out.fail true, grow_set G1.out _ _, fun j hj => (cell_ne (by omega)).trans (cell_ne (by omega))⟩
/-- what is chosen: the list, or nothing if a choice failed -/
def pickL (f : Bool) (v : Value) : Value := if f then .slice none 0 0 else v
theorem chosen_any (b o top : Nat) (cs : List Int) (f : Bool) (v : Value) (w : World) (h : CR b o top cs f w) :
    Calls Try.prog 100 #[.pointer (some ⟨b, o, none⟩), v] w fun e w' => e = .returned (.tuple #[pickL f v, .bool (!f)]) ∧ w = w' := by
  obtain ⟨_, a, c, _, ⟨h3, h4⟩, _, _⟩ := h
  cases f
  · go_enter Try.func100, Try.ntmps100
    go_wp2
    go_ret2
    exact ⟨rfl, rfl⟩
  · go_enter Try.func100, Try.ntmps100
    go_wp2
    go_ret2
    exact ⟨rfl, rfl⟩
theorem undrew7 {W0 w : World} {rw : Option Nat} (h : W0.drew.grownBy w rw) : W0.grownBy w rw := ⟨h.os, h.tape, h.output, h.size, h.block⟩
/-- a shuffle in block b: its order in block g of n numbers, and the choices that are left -/
def Sh (B b g n top : Nat) (xs cs : List Int) (f : Bool) (W : World) : Prop := (W.cell? ⟨b, 0, none⟩ = some (.slice (some ⟨g, 0, none⟩) n n) ∧ g < b) ∧ CR b 1 top cs f W ∧ Rw B g n n xs W ∧ top ≤ B
theorem shuffleOf_yes (n : Nat) (a : Option Addr) (cap : Nat) (cs : List Int) (w : World) (h : RO w.heap.size w a cs) (hc : cs.length ≤ cap) (h1 : 1 ≤ n) (h2 : n ≤ 12) :
    Calls Try.prog 98 #[.int .i64 n, .slice a cs.length cap] w fun e w' => ∃ b g, e = .returned (.tuple #[.pointer (some ⟨b, 0, none⟩), .bool true]) ∧ Sh w.heap.size b g n w.heap.size (asc n) cs false w' ∧ Below w.heap.size w w' := by
  have HR := Lib.hid h
  have HI : Hid (∀ W : World, Calls Try.prog 74 #[.int .i64 n, .int .i64 1, .int .i64 12] W fun e w' => e = .returned (.bool true) ∧ W = w') := fun W => btw64_yes _ _ _ W (by omega) (by omega)
  have HA : Hid (∀ W : World, Calls Try.prog 76 #[.int .i64 n] W fun e w' => e = .returned (.slice (some ⟨W.heap.size, 0, none⟩) n n) ∧ Rw W.heap.size W.heap.size n n (asc n) w' ∧ Below W.heap.size W w') := fun W => asc_any n W h2
  have HC := Lib.hid hc
  obtain ⟨m, hm⟩ : ∃ m, cs.length = m := ⟨_, rfl⟩
  rw [hm]
  have HM := Lib.hid hm
  clear h hc hm
  go_enter Try.func98, Try.ntmps98
  go_wp2_with fail
  refine (HI.out _).mono ?_
  rintro e w1 ⟨rfl, rfl⟩
  go_wp2_with fail
  refine (HA.out _).mono ?_
  rintro e w1 ⟨rfl, hr, hb⟩
  go_wp2
  go_ret2
  have hr2 := hr.lt
  exact ⟨w1.heap.size, w.heap.size, rfl, ⟨⟨by simp [go_sem], hr2⟩, ⟨hb.size, a, cap, ⟨by rw [HM.out]; simp [go_sem], by simp [go_sem]⟩, ⟨by simp [go_sem], by simp [go_sem]⟩, HR.out.below (hb.alloc hb.size _), HC.out⟩, hr.far ((Below.refl _ _).alloc (Nat.le_refl _) _), Nat.le_refl _⟩, hb.alloc hb.size _⟩
theorem shuffleOf_no (n : Int) (v : Value) (w : World) (h : ¬ (1 ≤ n ∧ n ≤ 12)) :
    Calls Try.prog 98 #[.int .i64 n, v] w fun e w' => e = .returned (.tuple #[.pointer none, .bool false]) ∧ w = w' := by
  have HI : Hid (∀ W : World, Calls Try.prog 74 #[.int .i64 n, .int .i64 1, .int .i64 12] W fun e w' => e = .returned (.bool false) ∧ W = w') := fun W => btw64_no _ _ _ W h
  clear h
  go_enter Try.func98, Try.ntmps98
  go_wp2_with fail
  refine (HI.out _).mono ?_
  rintro e w1 ⟨rfl, rfl⟩
  go_wp2
  go_ret2
  exact ⟨rfl, rfl⟩
theorem exch_any (B b g n top : Nat) (xs : List Int) (x : Int) (cs : List Int) (f : Bool) (i : Nat) (gr : Int) (w : World) (h : Sh B b g n top xs (x :: cs) f w) (hi : i < n) (hg : gr < n) :
    Calls Try.prog 99 #[.pointer (some ⟨b, 0, none⟩), .int .i64 i, .int .i64 gr] w fun e w' => e = .returned (.tuple #[]) ∧ Sh B b g n top (swp xs i (if 0 ≤ x ∧ x ≤ gr then x.toNat else 0)) cs (if 0 ≤ x ∧ x ≤ gr then f else true) w' ∧ Below B w w' := by
  obtain ⟨⟨h1, h2⟩, h3, h4, h5⟩ := h
  have hBg := h4.le
  have HN := Lib.hid (next7_any b 1 top x cs f gr w.drew (h3.drewN 1))
  have HW : Hid (∀ (j : Nat) (W : World), j < n → Rw B g n n xs W → Calls Try.prog 79 #[.slice (some ⟨g, 0, none⟩) n n, .int .i64 i, .int .i64 j] W fun e w' => e = .returned (.tuple #[]) ∧ Rw B g n n (swp xs i j) w' ∧ W.grownBy w' (some g)) := fun j W hj hr => swap_any B g n n i j xs W hr hi hj
  obtain ⟨j, hjx, hj2, hjn⟩ : ∃ j : Nat, (if 0 ≤ x ∧ x ≤ gr then x else 0) = (j : Int) ∧ (if 0 ≤ x ∧ x ≤ gr then x.toNat else 0) = j ∧ j < n := by
    by_cases hin : 0 ≤ x ∧ x ≤ gr
    · exact ⟨x.toNat, by rw [if_pos hin]; omega, by rw [if_pos hin], by omega⟩
    · exact ⟨0, by rw [if_neg hin]; rfl, by rw [if_neg hin], by omega⟩
  rw [hjx] at HN
  rw [hj2]
  generalize (if 0 ≤ x ∧ x ≤ gr then f else true) = f2 at HN ⊢
  have HR := Lib.hid h4
  have h2' : b ≠ g := by omega
  have hbl := h3.lt
  have H3 := Lib.hid h3
  clear h3 h4 hjx hj2
  go_enter Try.func99, Try.ntmps99
  go_region_held3 (fun w' => w'.cell? ⟨b, 0, none⟩ = some (.slice (some ⟨g, 0, none⟩) n n))
    (first
      | (go_keep; done)
      | (rw [hcc 0 (by omega)]; exact h1)
      | (rw [World.cell?_of_block (a := ⟨b, 0, none⟩) (hgs.block b (Nat.lt_of_lt_of_le hbl hgr.size) (fun e => by cases e; omega))]; assumption))
    (first
      | (go_at_call 106; with_reducible refine (HN.out).mono ?_; rintro e w2 ⟨rfl, hcr, hgr, hcc⟩)
      | (go_at_call 79; with_reducible refine (HW.out j w2 hjn (HR.out.drew.grown hgr (by simp; omega))).mono ?_; rintro e w3 ⟨rfl, hrw, hgs⟩))
  go_returns
  have hgr2 := undrew7 hgr
  have z2 := hgr2.size
  have hb0 : w3.cell? ⟨b, 0, none⟩ = some (.slice (some ⟨g, 0, none⟩) n n) := by assumption
  exact ⟨rfl, ⟨⟨hb0, h2⟩, hcr.grown hgs (by simp; omega) (fun q e => by cases e; omega), hrw, h5⟩, ((Below.refl B w).grown hgr2 (by omega) (fun q e => by cases e; omega)).grown hgs (by omega) (fun q e => by cases e; omega)⟩
theorem shD_step (cs : List Int) (gap n k : Nat) : shD cs gap n (k + 1) = (swp (shD cs gap n k).1 (n - 1 - k) (if 0 ≤ cs.getD k 0 ∧ cs.getD k 0 ≤ ((n - 1 - k : Nat) : Int) - gap then (cs.getD k 0).toNat else 0), if 0 ≤ cs.getD k 0 ∧ cs.getD k 0 ≤ ((n - 1 - k : Nat) : Int) - gap then (shD cs gap n k).2 else true) := by
  by_cases h : 0 ≤ cs.getD k 0 ∧ cs.getD k 0 ≤ ((n - 1 - k : Nat) : Int) - gap
  · rw [shD_yes h, if_pos h, if_pos h]
  · rw [shD_no h, if_neg h, if_neg h]
theorem drop_cons {cs : List Int} {k : Nat} (h : k < cs.length) : cs.drop k = cs.getD k 0 :: cs.drop (k + 1) := by
  rw [List.drop_eq_getElem_cons h, List.getD_eq_getElem?_getD, List.getElem?_eq_getElem h]
  rfl
theorem down_yes (a : Option Addr) (m cap : Nat) (cs : List Int) (gap : Nat) (w : World) (h : RO w.heap.size w a cs) (hm : cs.length = m) (hc : m ≤ cap) (h11 : m ≤ 11) (hg : gap ≤ 1) :
    Calls Try.prog 92 #[.slice a m cap, .int .i64 gap] w fun e w' => ∃ g, e = .returned (.tuple #[pickL (shD cs gap (m + 1) m).2 (.slice (some ⟨g, 0, none⟩) (m + 1) (m + 1)), .bool (!(shD cs gap (m + 1) m).2)]) ∧ Rw w.heap.size g (m + 1) (m + 1) (shD cs gap (m + 1) m).1 w' ∧ Below w.heap.size w w' := by
  have HM := Lib.hid hm
  have HS := Lib.hid (shuffleOf_yes (m + 1) a cap cs w h (by omega) (by omega) (by omega))
  rw [hm] at HS
  clear h hm
  go_enter Try.func92, Try.ntmps92
  go_wp2_with fail
  refine (HS.out).mono ?_
  rintro e w1 ⟨b, g, rfl, hs, hb⟩
  have HS1 := Lib.hid hs
  have HB1 := Lib.hid hb
  clear hs hb HS
  go_wp2_with fail
  go_loopw [9] (fun iv wr => ∃ k : Nat, k ≤ m ∧ iv = .int .i64 ((m : Int) - k) ∧ Hid (Sh w.heap.size b g (m + 1) w.heap.size (shD cs gap (m + 1) k).1 (cs.drop k) (shD cs gap (m + 1) k).2 wr) ∧ Hid (Below w.heap.size w wr)) (fun iv _ => (intOf iv).toNat)
  case atStart => exact ⟨0, Nat.zero_le _, by first | rfl | simp, HS1, HB1⟩
  case round =>
    obtain ⟨k, hk, rfl, HK, HBl⟩ := hrel
    clear HS1 HB1
    by_cases hlt : k < m
    · obtain ⟨I, hI⟩ : ∃ I, m - k = I := ⟨_, rfl⟩
      have hI2 : (m : Int) - k = (I : Int) := by omega
      rw [hI2]
      have HE : Hid (∃ j f2, shD cs gap (m + 1) (k + 1) = (swp (shD cs gap (m + 1) k).1 I j, f2) ∧ Calls Try.prog 99 #[.pointer (some ⟨b, 0, none⟩), .int .i64 I, .int .i64 ((I : Int) - gap)] wr fun e w' => e = .returned (.tuple #[]) ∧ Sh w.heap.size b g (m + 1) w.heap.size (swp (shD cs gap (m + 1) k).1 I j) (cs.drop (k + 1)) f2 w' ∧ Below w.heap.size wr w') := by
        have e := shD_step cs gap (m + 1) k
        rw [show m + 1 - 1 - k = I by omega] at e
        refine ⟨_, _, e, ?_⟩
        have hd := drop_cons (cs := cs) (k := k) (by have := HM.out; omega)
        exact exch_any _ _ _ _ _ _ _ _ _ I _ wr (by rw [← hd]; exact HK.out) (by omega) (by omega)
      obtain ⟨j, f2, HE1, HE2⟩ := HE.out
      replace HE1 := Lib.hid HE1
      replace HE2 := Lib.hid HE2
      have hIp : 1 ≤ I := by omega
      have hIq : I ≤ 11 := by omega
      have HIk : Hid ((I : Int) - 1 = (m : Int) - (k + 1 : Nat)) := by unfold Hid; omega
      clear HK HE hI hI2
      go_wp2_with fail
      refine (HE2.out).mono ?_
      rintro e w2 ⟨rfl, hs, hb⟩
      have HK2 : Hid (Sh w.heap.size b g (m + 1) w.heap.size (shD cs gap (m + 1) (k + 1)).1 (cs.drop (k + 1)) (shD cs gap (m + 1) (k + 1)).2 w2) := by
        unfold Hid
        rw [HE1.out]
        exact hs
      have HB2 : Hid (Below w.heap.size w w2) := HBl.out.trans hb
      clear hs hb HE2 HBl
      go_wp2
      go_roundw
      case rel => exact ⟨k + 1, by omega, by rw [HIk.out], HK2, HB2⟩
      case measure => simp [intOf]; omega
    · obtain rfl : k = m := by omega
      have t0 : (k : Int) - k = 0 := by omega
      rw [t0]
      obtain ⟨⟨c0, c1⟩, hcr, hrw, _⟩ := HK.out
      have HC : Hid (∀ n, Calls Try.prog 100 #[.pointer (some ⟨b, 1, none⟩), .slice (some ⟨g, 0, none⟩) (k + 1) (k + 1)] (wr.drewN n) fun e w' => e = .returned (.tuple #[pickL (shD cs gap (k + 1) k).2 (.slice (some ⟨g, 0, none⟩) (k + 1) (k + 1)), .bool (!(shD cs gap (k + 1) k).2)]) ∧ wr.drewN n = w') := fun n => chosen_any b 1 _ _ _ _ (wr.drewN n) (hcr.drewN n)
      have HRW := Lib.hid hrw
      clear HK hcr hrw
      obtain ⟨fl, hfl⟩ : ∃ fl, (shD cs gap (k + 1) k).2 = fl := ⟨_, rfl⟩
      rw [hfl] at HC
      have HF := Lib.hid hfl
      clear hfl
      go_wp2
      go_quiet ((go_at_call 100; exact quietG (HC.out _)))
      go_wp2
      go_ret2
      rw [HF.out]
      exact ⟨g, rfl, HRW.out.drewN _, below_drewN HBl.out _⟩
theorem down_no (a : Option Addr) (m cap : Nat) (gap : Int) (w : World) (hm : m ≤ 1048576) (h11 : 12 ≤ m) :
    Calls Try.prog 92 #[.slice a m cap, .int .i64 gap] w fun e w' => e = .returned (.tuple #[.slice none 0 0, .bool false]) ∧ w = w' := by
  have HS : Hid (∀ W : World, Calls Try.prog 98 #[.int .i64 ((m : Int) + 1), .slice a m cap] W fun e w' => e = .returned (.tuple #[.pointer none, .bool false]) ∧ W = w') := fun W => shuffleOf_no ((m : Int) + 1) _ W (by omega)
  clear h11
  go_enter Try.func92, Try.ntmps92
  go_wp2_with fail
  refine (HS.out _).mono ?_
  rintro e w1 ⟨rfl, rfl⟩
  go_wp2
  go_ret2
  exact ⟨rfl, rfl⟩
/-- what a shuffle returns -/
def shRes (cs : List Int) (gap : Nat) : List Int × Bool := if cs.length ≤ 11 ∧ (shD cs gap (cs.length + 1) cs.length).2 = false then ((shD cs gap (cs.length + 1) cs.length).1, true) else ([], false)
theorem shRes_length (cs : List Int) (gap : Nat) : (shRes cs gap).1.length ≤ 12 := by
  unfold shRes
  split
  · rename_i h
    rw [shD_length]
    omega
  · exact Nat.zero_le _
/-- the value of a list that is returned -/
def ListRet (w : World) (xs : List Int) (ok : Bool) (e : Ending) (w' : World) : Prop := ∃ v, e = .returned (.tuple #[v, .bool ok]) ∧ SL w.heap.size w'.heap.size w' v xs ∧ Below w.heap.size w w'
theorem listRet_pick {B g n : Nat} {w w' : World} {xs : List Int} {f : Bool} {e : Ending} (he : e = .returned (.tuple #[pickL f (.slice (some ⟨g, 0, none⟩) n n), .bool (!f)])) (hr : Rw B g n n xs w') (hB : w.heap.size ≤ B) (hb : Below w.heap.size w w') : ListRet w (if f then [] else xs) (!f) e w' := by
  cases f
  · exact ⟨_, he, (hr.base hB).sl, hb⟩
  · exact ⟨_, he, .inl ⟨rfl, rfl⟩, hb⟩
theorem down_any (a : Option Addr) (m cap : Nat) (cs : List Int) (gap : Nat) (w : World) (h : RO w.heap.size w a cs) (hm : cs.length = m) (hl : m ≤ 1048576) (hc : m ≤ cap) (hg : gap ≤ 1) :
    Calls Try.prog 92 #[.slice a m cap, .int .i64 gap] w (ListRet w (shRes cs gap).1 (shRes cs gap).2) := by
  by_cases h11 : m ≤ 11
  · refine (down_yes a m cap cs gap w h hm hc h11 hg).mono ?_
    rintro e w' ⟨g, he, hr, hb⟩
    have := listRet_pick he hr (Nat.le_refl _) hb
    unfold shRes
    rw [hm]
    cases hf : (shD cs gap (m + 1) m).2
    · rw [if_pos ⟨h11, rfl⟩]
      rw [hf] at this
      exact this
    · rw [if_neg (fun y => by cases y.2)]
      rw [hf] at this
      exact this
  · refine (down_no a m cap gap w hl (by omega)).mono ?_
    rintro e w' ⟨he, rfl⟩
    unfold shRes
    rw [hm, if_neg (fun y => h11 y.1)]
    exact ⟨_, he, .inl ⟨rfl, rfl⟩, Below.refl _ _⟩
/-- the list, or nothing if a choice failed -/
def orNil (s : List Int × Bool) : List Int := if s.2 then [] else s.1
theorem orNil_yes {s : List Int × Bool} (h : s.2 = false) : orNil s = s.1 := by unfold orNil; rw [h]; rfl
theorem orNil_no {s : List Int × Bool} (h : s.2 = true) : orNil s = [] := by unfold orNil; rw [h]; rfl
theorem shuffleBy_impl (a : Option Addr) (m cap : Nat) (cs : List Int) (w : World) (h : RO w.heap.size w a cs) (hm : cs.length = m) (hl : m ≤ 1048576) (hc : m ≤ cap) :
    Calls Try.prog 36 #[.slice a m cap] w (ListRet w (shRes cs 0).1 (shRes cs 0).2) := by
  have HD := Lib.hid (down_any a m cap cs 0 w h hm hl hc (by omega))
  generalize shRes cs 0 = r at HD ⊢
  clear h hm
  go_enter Try.func36, Try.ntmps36
  go_wp2_with fail
  refine (HD.out).mono ?_
  rintro e w1 ⟨v, rfl, hs, hb⟩
  have HS := Lib.hid hs
  have HB := Lib.hid hb
  clear hs hb HD
  go_wp2
  go_ret2
  exact ⟨_, rfl, HS.out, HB.out⟩
theorem cyclicBy_impl (a : Option Addr) (m cap : Nat) (cs : List Int) (w : World) (h : RO w.heap.size w a cs) (hm : cs.length = m) (hl : m ≤ 1048576) (hc : m ≤ cap) :
    Calls Try.prog 42 #[.slice a m cap] w (ListRet w (shRes cs 1).1 (shRes cs 1).2) := by
  have HD := Lib.hid (down_any a m cap cs 1 w h hm hl hc (by omega))
  generalize shRes cs 1 = r at HD ⊢
  clear h hm
  go_enter Try.func42, Try.ntmps42
  go_wp2_with fail
  refine (HD.out).mono ?_
  rintro e w1 ⟨v, rfl, hs, hb⟩
  have HS := Lib.hid hs
  have HB := Lib.hid hb
  clear hs hb HD
  go_wp2
  go_ret2
  exact ⟨_, rfl, HS.out, HB.out⟩
end Go.Proofs.Ytciofobedgmbjab
