/- Drawn tables: spec.l04DrawSized, spec.R8Table. -/
import Derived.Test.YtgpcacbjmjpdnaaTab
import Derived.Test.YtgpcacbjmjpdnaaR8
import Derived.Test.YtgpcacbjmjpdnaaDrawBits
import Derived.Test.YtgpcacbjmjpdnaaSmall
import Derived.Test.YtgpcacbjmjpdnaaNorm
namespace Go.Proofs.Ytgpcacbjmjpdnaa
open Go.RowKit Go.PlainAid
set_option maxHeartbeats 1000000

theorem tab_of (n : Nat) (l : List Int) (hn : n ≤ 4) (hl : l.length = 2 ^ n) (h : ∀ x ∈ l, 48 ≤ x ∧ x ≤ 49) : TabP n (strOfNums l) := by
  have hp : 2 ^ n ≤ 16 := Nat.pow_le_pow_right (n := 2) (by omega) hn
  exact ⟨by rw [strOfNums_size]; exact hl, by omega, (drawn_of l (by omega) h).2⟩
/-- a drawn table of n inputs -/
def TabPost (n : Nat) (base : Nat) (w : World) (e : Ending) (w' : World) : Prop := ∃ s : ByteArray, e = .returned (.string s) ∧ TabP n s ∧ Below base w w'
set_option maxRecDepth 8000 in
theorem drawSized_any (n base b : Nat) (a : Option Addr) (len cap : Nat) (w : World) (hn : n ≤ 4) (h : Src base w b a len cap 2) (hl : len ≤ 1048576) :
    Calls Try.prog 45 #[.pointer (some ⟨b, 0, none⟩), .int .i64 n] w (TabPost n base w) := by
  obtain ⟨i0, hi, hz0, hz1, hz2⟩ := info_parts Try.info5
  obtain ⟨N, hN⟩ : ∃ N, 2 ^ n = N := ⟨_, rfl⟩
  have hpw := wrap_pow (show n ≤ 6 by omega)
  rw [hN] at hpw
  have hp1 : 1 ≤ N := by rw [← hN]; exact Nat.one_le_two_pow
  have hp2 : N ≤ 16 := by rw [← hN]; exact Nat.pow_le_pow_right (n := 2) (by omega) hn
  have HN := Lib.hid hN
  have hz : b < w.heap.size := by
    obtain ⟨_, _, k, s, _, _, _, c0, _⟩ := h
    exact World.block_lt_of_cell? w _ c0
  have hbb : base ≤ b := h.2.1
  have S1 := Lib.hid (h.below ((Below.refl (b + 1) w).alloc hz (.cells #[] 5)))
  have O1 := Lib.hid (ownsRow_empty w 5 1)
  have B1 := Lib.hid ((Below.refl base w).alloc (by omega) (.cells #[] 5))
  clear h hN
  go_enter Try.func45, Try.ntmps45
  go_wp2_with fail
  refine (pick_any base b a len cap 2 3 _ S1.out (by omega) hl (by omega) (by omega)).mono ?_
  rintro e w2 ⟨x, rfl, ⟨x0, x1⟩, hs2, hg2⟩
  have hzw2 : w.heap.size ≤ w2.heap.size := by have := hg2.size; simp at this; omega
  have S2 := Lib.hid hs2
  have O2 := Lib.hid (own_grow O1.out hg2 hz)
  have B2 := Lib.hid (B1.out.grown hg2 (by simp; omega) (fun y hy => by simp at hy; omega))
  clear hs2 hg2 S1 O1 B1
  go_wp2_with fail
  refine (pick_any base b a len cap 4 N _ S2.out (by omega) hl (by omega) (by omega)).mono ?_
  rintro e w3 ⟨y, rfl, ⟨y0, y1⟩, hs3, hg3⟩
  have hzw3 : w.heap.size ≤ w3.heap.size := by have := hg3.size; omega
  have S3 := Lib.hid (hs3.more (show 4 + 2 ≤ 8 by omega))
  have O3 := Lib.hid (own_grow O2.out hg3 hz)
  have B3 := Lib.hid (B2.out.grown hg3 (by omega) (fun y hy => by simp at hy; omega))
  clear hs3 hg3 S2 O2 B2 hzw2
  obtain ⟨y, rfl⟩ := Int.eq_ofNat_of_zero_le y0
  go_wp2
  go_loopw [5, 8, 9] (fun v jv _ wr => ∃ (l : List Int) (j : Nat), j ≤ N ∧ jv = .int .i64 j ∧ Hid (l.length = j) ∧ Hid (∀ x ∈ l, 48 ≤ x ∧ x ≤ 49) ∧ Hid (Src base wr b a len cap (8 + 6 * j)) ∧ w.heap.size ≤ wr.heap.size ∧ wr.ownsRow w.heap.size 5 1 v l.length (l.map (Value.int .u8)) ∧ Below base w wr) (fun _ jv _ _ => N - (intOf jv).toNat)
  case atStart => exact ⟨[], 0, Nat.zero_le _, rfl, rfl, by intro x hx; simp at hx, S3.out, hzw3, O3.out, B3.out⟩
  case round =>
    obtain ⟨l, j, hj, rfl, hlj, hall, hsrc, hzw, hown, hbel⟩ := hrel
    clear S3 O3 B3
    by_cases hlt : j < N
    · have ha := i64_andT y j (by omega) (by omega)
      have hqle : y &&& j ≤ j := Nat.and_le_right
      obtain ⟨q, hq⟩ : ∃ q, y &&& j = q := ⟨_, rfl⟩
      rw [hq] at ha hqle
      clear hq
      have HPar : Hid (∀ W : World, Calls Try.prog 71 #[.int .i64 q] W fun e w' => e = .returned (.int .i64 (Pop.pcF 64 q % 2 : Nat)) ∧ W = w') := fun W => l02Parity_any q W (by omega)
      have hc1 : Pop.pcF 64 q % 2 ≤ 1 := by omega
      obtain ⟨c, hc⟩ : ∃ c, Pop.pcF 64 q % 2 = c := ⟨_, rfl⟩
      rw [hc] at HPar hc1
      clear hc
      have HOo := Lib.hid hown
      have HBo := Lib.hid hbel
      clear hown hbel
      by_cases hx0 : x = 0
      · have t0 : (x == 0) = true := by simp [hx0]
        have t1 : (x == 1) = false := by simp [hx0]
        clear hx0
        go_wp2_with (go_at_call 71; refine (HPar.out _).mono ?_; rintro e wp ⟨rfl, rfl⟩)
        refine (pick_any base b a len cap (8 + 6 * j) 2 _ hsrc.out (by omega) hl (by omega) (by omega)).mono ?_
        rintro e w4 ⟨z, rfl, ⟨z0, z1⟩, hs4, hg4⟩
        have hzx : w.heap.size ≤ w4.heap.size := Nat.le_trans hzw hg4.size
        have S3 := Lib.hid hs4
        have O3 := Lib.hid (own_grow HOo.out hg4 hz)
        have B3 := Lib.hid (HBo.out.grown hg4 (by omega) (fun y hy => by simp at hy; omega))
        clear hs4 hg4 hsrc HOo HBo
        have hle : l.length ≤ 16 := by have := hlj.out; omega
        go_wp2_with (at_builtin; refine wpList_append_own _ rfl _ _ 22 rfl w.heap.size 5 i0 (.int .u8 0) 1 1 Try.underlying22 hi hz0 hz1 hz2 rfl (by decide) _ _ _ rfl (O3.out.alloc _) ⟨w4.heap.size, 0, none⟩ 1 1 [.int .u8 (48 + z)] rfl rfl (cell_one_new _ _ _) (by intro u hu; simp at hu; subst hu; rfl) (by unfold maxLen; omega) (by omega) (by simp; omega) ?_; intro v1 w6 hown6 hgrow6 _)
        have hz6 : w.heap.size ≤ w6.heap.size := by have := hgrow6.size; simp at this; omega
        have HB : Hid (Below base w w6) := (B3.out.alloc (by omega) _).grown hgrow6 (by simp; omega) (fun y hy => by have := own_block O3.out y hy; omega)
        have HS6 : Hid (Src base w6 b a len cap (8 + 6 * (j + 1))) := by
          refine (S3.out.more (by omega)).below (((Below.refl (b + 1) w4).alloc (by omega) _).grown hgrow6 (by simp; omega) (fun y hy => ?_))
          have := own_block O3.out y hy
          omega
        have HO6 : Hid (w6.ownsRow w.heap.size 5 1 v1 (l ++ [48 + z]).length ((l ++ [48 + z]).map (Value.int .u8))) := by
          unfold Hid
          simpa using hown6
        have HL6 : Hid ((l ++ [48 + z]).length = j + 1) := by have := hlj.out; unfold Hid; simp; omega
        have HA6 : Hid (∀ x ∈ l ++ [48 + z], 48 ≤ x ∧ x ≤ 49) := by
          intro x hx
          rcases List.mem_append.1 hx with hx | hx
          · exact hall.out x hx
          · simp at hx; subst hx; omega
        clear hown6 hgrow6 O3 S3 B3
        go_wp2
        go_roundw
        case rel => exact ⟨l ++ [48 + z], j + 1, by omega, by go_num, HL6, HA6, HS6, hz6, HO6.out, HB.out⟩
        case measure => simp [intOf]; omega
      · have t0 : (x == 0) = false := by simp [hx0]
        by_cases hx1 : x = 1
        · have t1 : (x == 1) = true := by simp [hx1]
          clear hx0 hx1
          go_wp2_with (go_at_call 71; refine (HPar.out _).mono ?_; rintro e wp ⟨rfl, rfl⟩)
          refine (one_any base b a len cap (8 + 6 * j) 6 _ hsrc.out (by omega) hl (by omega) (by omega)).mono ?_
          rintro e w4 ⟨z, rfl, hs4, hg4⟩
          have hzx : w.heap.size ≤ w4.heap.size := Nat.le_trans hzw hg4.size
          have S3 := Lib.hid hs4
          have O3 := Lib.hid (own_grow HOo.out hg4 hz)
          have B3 := Lib.hid (HBo.out.grown hg4 (by omega) (fun y hy => by simp at hy; omega))
          clear hs4 hg4 hsrc HOo HBo
          cases z
          · skip
            have hle : l.length ≤ 16 := by have := hlj.out; omega
            go_wp2_with (at_builtin; refine wpList_append_own _ rfl _ _ 22 rfl w.heap.size 5 i0 (.int .u8 0) 1 1 Try.underlying22 hi hz0 hz1 hz2 rfl (by decide) _ _ _ rfl (O3.out.alloc _) ⟨w4.heap.size, 0, none⟩ 1 1 [.int .u8 (48 + (c : Int))] rfl rfl (cell_one_new _ _ _) (by intro u hu; simp at hu; subst hu; rfl) (by unfold maxLen; omega) (by omega) (by simp; omega) ?_; intro v1 w6 hown6 hgrow6 _)
            have hz6 : w.heap.size ≤ w6.heap.size := by have := hgrow6.size; simp at this; omega
            have HB : Hid (Below base w w6) := (B3.out.alloc (by omega) _).grown hgrow6 (by simp; omega) (fun y hy => by have := own_block O3.out y hy; omega)
            have HS6 : Hid (Src base w6 b a len cap (8 + 6 * (j + 1))) := by
              refine (S3.out.more (by omega)).below (((Below.refl (b + 1) w4).alloc (by omega) _).grown hgrow6 (by simp; omega) (fun y hy => ?_))
              have := own_block O3.out y hy
              omega
            have HO6 : Hid (w6.ownsRow w.heap.size 5 1 v1 (l ++ [48 + (c : Int)]).length ((l ++ [48 + (c : Int)]).map (Value.int .u8))) := by
              unfold Hid
              simpa using hown6
            have HL6 : Hid ((l ++ [48 + (c : Int)]).length = j + 1) := by have := hlj.out; unfold Hid; simp; omega
            have HA6 : Hid (∀ x ∈ l ++ [48 + (c : Int)], 48 ≤ x ∧ x ≤ 49) := by
              intro x hx
              rcases List.mem_append.1 hx with hx | hx
              · exact hall.out x hx
              · simp at hx; subst hx; omega
            clear hown6 hgrow6 O3 S3 B3
            go_wp2
            go_roundw
            case rel => exact ⟨l ++ [48 + (c : Int)], j + 1, by omega, by go_num, HL6, HA6, HS6, hz6, HO6.out, HB.out⟩
            case measure => simp [intOf]; omega
          · skip
            have hle : l.length ≤ 16 := by have := hlj.out; omega
            go_wp2_with (at_builtin; refine wpList_append_own _ rfl _ _ 22 rfl w.heap.size 5 i0 (.int .u8 0) 1 1 Try.underlying22 hi hz0 hz1 hz2 rfl (by decide) _ _ _ rfl (O3.out.alloc _) ⟨w4.heap.size, 0, none⟩ 1 1 [.int .u8 (48 + (1 - (c : Int)))] rfl rfl (cell_one_new _ _ _) (by intro u hu; simp at hu; subst hu; rfl) (by unfold maxLen; omega) (by omega) (by simp; omega) ?_; intro v1 w6 hown6 hgrow6 _)
            have hz6 : w.heap.size ≤ w6.heap.size := by have := hgrow6.size; simp at this; omega
            have HB : Hid (Below base w w6) := (B3.out.alloc (by omega) _).grown hgrow6 (by simp; omega) (fun y hy => by have := own_block O3.out y hy; omega)
            have HS6 : Hid (Src base w6 b a len cap (8 + 6 * (j + 1))) := by
              refine (S3.out.more (by omega)).below (((Below.refl (b + 1) w4).alloc (by omega) _).grown hgrow6 (by simp; omega) (fun y hy => ?_))
              have := own_block O3.out y hy
              omega
            have HO6 : Hid (w6.ownsRow w.heap.size 5 1 v1 (l ++ [48 + (1 - (c : Int))]).length ((l ++ [48 + (1 - (c : Int))]).map (Value.int .u8))) := by
              unfold Hid
              simpa using hown6
            have HL6 : Hid ((l ++ [48 + (1 - (c : Int))]).length = j + 1) := by have := hlj.out; unfold Hid; simp; omega
            have HA6 : Hid (∀ x ∈ l ++ [48 + (1 - (c : Int))], 48 ≤ x ∧ x ≤ 49) := by
              intro x hx
              rcases List.mem_append.1 hx with hx | hx
              · exact hall.out x hx
              · simp at hx; subst hx; omega
            clear hown6 hgrow6 O3 S3 B3
            go_wp2
            go_roundw
            case rel => exact ⟨l ++ [48 + (1 - (c : Int))], j + 1, by omega, by go_num, HL6, HA6, HS6, hz6, HO6.out, HB.out⟩
            case measure => simp [intOf]; omega
        · have t1 : (x == 1) = false := by simp [hx1]
          have hzx := hzw
          have S3 := Lib.hid hsrc.out
          have O3 := HOo
          have B3 := HBo
          clear hx0 hx1
          have hle : l.length ≤ 16 := by have := hlj.out; omega
          go_wp2_with (first | (go_at_call 71; refine (HPar.out _).mono ?_; rintro e wp ⟨rfl, rfl⟩) | (at_builtin; refine wpList_append_own _ rfl _ _ 22 rfl w.heap.size 5 i0 (.int .u8 0) 1 1 Try.underlying22 hi hz0 hz1 hz2 rfl (by decide) _ _ _ rfl (O3.out.alloc _) ⟨wr.heap.size, 0, none⟩ 1 1 [.int .u8 (48 + (c : Int))] rfl rfl (cell_one_new _ _ _) (by intro u hu; simp at hu; subst hu; rfl) (by unfold maxLen; omega) (by omega) (by simp; omega) ?_; intro v1 w6 hown6 hgrow6 _))
          have hz6 : w.heap.size ≤ w6.heap.size := by have := hgrow6.size; simp at this; omega
          have HB : Hid (Below base w w6) := (B3.out.alloc (by omega) _).grown hgrow6 (by simp; omega) (fun y hy => by have := own_block O3.out y hy; omega)
          have HS6 : Hid (Src base w6 b a len cap (8 + 6 * (j + 1))) := by
            refine (S3.out.more (by omega)).below (((Below.refl (b + 1) wr).alloc (by omega) _).grown hgrow6 (by simp; omega) (fun y hy => ?_))
            have := own_block O3.out y hy
            omega
          have HO6 : Hid (w6.ownsRow w.heap.size 5 1 v1 (l ++ [48 + (c : Int)]).length ((l ++ [48 + (c : Int)]).map (Value.int .u8))) := by
            unfold Hid
            simpa using hown6
          have HL6 : Hid ((l ++ [48 + (c : Int)]).length = j + 1) := by have := hlj.out; unfold Hid; simp; omega
          have HA6 : Hid (∀ x ∈ l ++ [48 + (c : Int)], 48 ≤ x ∧ x ≤ 49) := by
            intro x hx
            rcases List.mem_append.1 hx with hx | hx
            · exact hall.out x hx
            · simp at hx; subst hx; omega
          clear hown6 hgrow6 O3 S3 B3
          go_wp2
          go_roundw
          case rel => exact ⟨l ++ [48 + (c : Int)], j + 1, by omega, by go_num, HL6, HA6, HS6, hz6, HO6.out, HB.out⟩
          case measure => simp [intOf]; omega
    · obtain rfl : j = N := by omega
      have hcv := conv_own (P := Try.prog) (dst := 9) Try.underlying22 Try.underlying5 Try.underlying9 hown
      clear hown
      go_wp2
      go_ret
      exact ⟨_, rfl, tab_of n l hn (by rw [hlj.out, HN.out]) hall.out, hbel⟩
/-- a drawn table -/
def TabsPost (w : World) (e : Ending) (w' : World) : Prop := ∃ (n : Nat) (s : ByteArray), e = .returned (.string s) ∧ n ≤ 4 ∧ TabP n s ∧ Below w.heap.size w w'
theorem r8Table_any (a : Option Addr) (len cap : Nat) (w : World) (hC : Code w w.heap.size a len) (hl : len ≤ 1048576) :
    Calls Try.prog 14 #[.slice a len cap] w (TabsPost w) := by
  have HC := Lib.hid hC
  clear hC
  go_enter Try.func14, Try.ntmps14
  go_wp2_with fail
  refine (from_any a len cap _ HC.out).mono ?_
  rintro e w1 ⟨rfl, hs1, hb1⟩
  have S1 := Lib.hid hs1
  have B1 := Lib.hid hb1
  clear hs1 hb1
  go_wp2_with fail
  refine (pick_any w.heap.size w.heap.size a len cap 0 5 _ S1.out (by omega) hl (by omega) (by omega)).mono ?_
  rintro e w2 ⟨x, rfl, ⟨x0, x1⟩, hs2, hg2⟩
  have S2 := Lib.hid hs2
  have B2 := Lib.hid (B1.out.grown hg2 B1.out.size (by simp))
  clear hs2 hg2 S1 B1
  obtain ⟨n, rfl⟩ := Int.eq_ofNat_of_zero_le x0
  go_wp2_with fail
  refine (drawSized_any n w.heap.size w.heap.size a len cap _ (by omega) S2.out hl).mono ?_
  rintro e w3 ⟨s, rfl, hT, hb3⟩
  have HT := Lib.hid (And.intro hT (B2.out.trans hb3))
  clear hT hb3 S2 B2
  go_wp2
  go_ret
  exact ⟨n, s, rfl, by omega, HT.out.1, HT.out.2⟩
end Go.Proofs.Ytgpcacbjmjpdnaa
