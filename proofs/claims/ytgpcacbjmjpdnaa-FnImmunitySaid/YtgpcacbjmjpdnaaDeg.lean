/- The products of a normal form, and the degree: impl.function.products, DegreeOf, spec.l04Degree; the law FnExactDegreeOf. -/
import Derived.Test.YtgpcacbjmjpdnaaNorm
import Derived.Test.YtgpcacbjmjpdnaaWsp
import Derived.Test.YtgpcacbjmjpdnaaWgt
import Derived.Test.YtgpcacbjmjpdnaaSlice64
import Derived.Test.YtgpcacbjmjpdnaaBoxT
namespace Go.Proofs.Ytgpcacbjmjpdnaa
open Go.RowKit Go.PlainAid
open Wt (prodL mxL)
set_option maxHeartbeats 800000

set_option maxRecDepth 8000 in
theorem products_any (n : Nat) (g : Nat → Bool) (w : World) (hn : n ≤ 6) :
    Calls Try.prog 49 #[.agg #[.int .i64 n, .int .u64 (Wh.ob g (2 ^ n))]] w fun e w' => ∃ v, e = .returned v ∧ w'.ownsRow w.heap.size 2 1 v (prodL (Wh.mob g n) (2 ^ n)).length ((prodL (Wh.mob g n) (2 ^ n)).map (Value.int .i64)) ∧ Below w.heap.size w w' := by
  obtain ⟨i0, hi, hz0, hz1, hz2⟩ := info_parts Try.info2
  have hp := pow6 hn
  have HN : Hid (∀ W : World, Calls Try.prog 47 #[.agg #[.int .i64 n, .int .u64 (Wh.ob g (2 ^ n))]] W fun e w' => e = .returned (.agg #[.int .i64 n, .int .u64 (Wh.ob (Wh.mob g n) (2 ^ n))]) ∧ Below W.heap.size W w') := fun W => norm_any n g W hn
  obtain ⟨h, hh⟩ : ∃ h, Wh.mob g n = h := ⟨_, rfl⟩
  rw [hh] at HN ⊢
  clear hh
  obtain ⟨N, hN⟩ : ∃ N, 2 ^ n = N := ⟨_, rfl⟩
  have HZ : Hid (∀ (V : Nat) (W : World), Calls Try.prog 52 #[.agg #[.int .i64 n, .int .u64 V]] W fun e w' => e = .returned (.int .i64 N) ∧ Below W.heap.size W w') := fun V W => by
    have := size_any n V W hn
    rwa [hN] at this
  rw [hN] at HN hp ⊢
  have HV : Hid (Wh.ob h N < 18446744073709551616) := by
    have h1 := Wh.ob_lt h N
    have h2 : 2 ^ N ≤ 2 ^ 64 := Nat.pow_le_pow_right (by omega) hp.2
    unfold Hid
    omega
  have HA : Hid (∀ (u : Nat) (W : World), u < N → Calls Try.prog 53 #[.agg #[.int .i64 n, .int .u64 (Wh.ob h N)], .int .i64 u] W fun e w' => e = .returned (.int .u64 (h u).toNat) ∧ Below W.heap.size W w') := fun u W hu => by
    have := at_any n (Wh.ob h N) u W HV.out (by omega)
    rwa [Wh.ob_bit, decide_eq_true hu, Bool.true_and] at this
  obtain ⟨V, hV⟩ : ∃ V, Wh.ob h N = V := ⟨_, rfl⟩
  obtain ⟨U, hU⟩ : ∃ U, Wh.ob g N = U := ⟨_, rfl⟩
  rw [hV] at HN HA
  rw [hU] at HN ⊢
  clear hV hU hN HV
  go_enter Try.func49, Try.ntmps49
  go_wp2_with (go_at_call 47; refine (HN.out _).mono ?_; rintro e w1 ⟨rfl, hb1⟩)
  have B1 : Below w.heap.size w w1 := ((Below.refl _ _).alloc (Nat.le_refl _) _).trans (hb1.mono (by simp))
  have O1 := (own_base (ownsRow_empty w1 2 1) B1.size).alloc (.cells #[.int .i64 n, .int .u64 V] 57)
  have R1 := BT.new (w1.alloc (.cells #[] 2)) (.int .i64 n) (.int .u64 V) 57
  rw [World.size_alloc] at R1
  have B2 := (B1.alloc B1.size (.cells #[] 2)).alloc (by have := B1.size; simp; omega) (.cells #[.int .i64 n, .int .u64 V] 57)
  refine (HZ.out _ _).mono ?_
  rintro e w2 ⟨rfl, hb2⟩
  have O2 := own_far O1 hb2
  have R2 := R1.far hb2
  have B3 := B2.trans (hb2.mono B2.size)
  have hz := B1.size
  clear hb1 hb2 B1 O1 R1 B2
  go_wp2
  go_loopw [4, 5, 11] (fun v _ uv wr => ∃ u : Nat, u ≤ N ∧ uv = .int .i64 u ∧ wr.ownsRow w.heap.size 2 1 v (prodL h u).length ((prodL h u).map (Value.int .i64)) ∧ BT wr (w1.heap.size + 1) (.int .i64 n) (.int .u64 V) 57 ∧ Below w.heap.size w wr) (fun _ _ uv _ => N - (intOf uv).toNat)
  case atStart => exact ⟨0, Nat.zero_le _, rfl, O2, R2, B3⟩
  case round =>
    obtain ⟨u, hu, rfl, hown, R, B⟩ := hrel
    clear O2 R2 B3
    by_cases hlt : u < N
    · have HAu := HA.out u
      cases hb : h u with
      | false =>
        have HP := Lib.hid (Wt.prodL_no hb)
        rw [hb] at HAu
        have HAu := Lib.hid HAu
        obtain ⟨⟨c0, c1⟩, _⟩ := R.p2
        clear hb
        go_wp2_with (go_at_call 53; refine (HAu.out _ hlt).mono ?_; rintro e w3 ⟨rfl, hb3⟩)
        have hown3 := own_far hown hb3
        have R3 := R.far hb3
        have B3 := B.trans (hb3.mono B.size)
        clear hb3 hown R B c0 c1
        go_wp2
        go_roundw
        case rel => exact ⟨u + 1, by omega, by go_num, by rw [HP.out]; exact hown3, R3, B3⟩
        case measure => simp [intOf]; omega
      | true =>
        have HP := Lib.hid (Wt.prodL_yes hb)
        rw [hb] at HAu
        have HAu := Lib.hid HAu
        obtain ⟨⟨c0, c1⟩, _⟩ := R.p2
        have hle := Wt.prodL_length h u
        clear hb
        go_wp2_with (first | (go_at_call 53; refine (HAu.out _ hlt).mono ?_; rintro e w3 ⟨rfl, hb3⟩; have hown3 := own_far hown hb3; have R3 := Lib.hid (R.far hb3); have B3 := Lib.hid (B.trans (hb3.mono B.size)); have hne := Lib.hid (R3.out.not_own hown3 (by decide)); clear hb3 hown R B c0 c1) | (at_builtin; refine wpList_append_own _ rfl _ _ 33 rfl w.heap.size 2 i0 (.int .i64 0) 1 8 Try.underlying33 hi hz0 hz1 hz2 rfl (by decide) _ _ _ rfl (hown3.alloc _) ⟨w3.heap.size, 0, none⟩ 1 1 [.int .i64 u] rfl rfl (cell_one_new _ _ _) (by intro u hu; simp at hu; subst hu; rfl) (by unfold maxLen; omega) (by omega) (by have := B3.out.size; simp; omega) ?_; intro v1 w4 hown4 hgrow _))
        have B4 : Below w.heap.size w w4 := (B3.out.alloc B3.out.size _).grown hgrow (by have := B3.out.size; simp; omega) (own_block hown3)
        have R4 := (R3.out.alloc _).grown hgrow hne.out
        have HO : Hid (w4.ownsRow w.heap.size 2 1 v1 (prodL h (u + 1)).length ((prodL h (u + 1)).map (Value.int .i64))) := by
          unfold Hid
          rw [HP.out]
          simpa using hown4
        clear hown4 hgrow hown3 B3 R3 hne
        go_wp2
        go_roundw
        case rel => exact ⟨u + 1, by omega, by go_num, HO.out, R4, B4⟩
        case measure => simp [intOf]; omega
    · obtain rfl : u = N := by omega
      clear R
      go_wp2
      go_ret
      exact ⟨_, rfl, hown, B⟩
theorem tabL_at (g : Nat → Bool) {k u : Nat} (h : u < k) : (tabL g k)[u]? = some (48 + ((g u).toNat : Int)) := by simp [tabL, h]
theorem numsT_get (l : List Int) (k : Nat) (hk : k < l.length) : (strOfNums l)[k]'(by rw [strOfNums_size]; exact hk) = UInt8.ofNat (l[k]).toNat := by
  have h1 := strOfNums_data l
  have h2 : ((strOfNums l).data.toList)[k]? = some (UInt8.ofNat (l[k]).toNat) := by rw [h1]; simp [List.getElem?_eq_getElem hk]
  have h3 : (strOfNums l).data[k]? = some (UInt8.ofNat (l[k]).toNat) := by simpa using h2
  exact (Array.getElem?_eq_some_iff.1 h3).2
theorem tabL_str (g : Nat → Bool) (N u : Nat) (hu : u < N) (h : u < (strOfNums (tabL g N)).size) : (((strOfNums (tabL g N))[u]'h).toNat : Int) = 48 + ((g u).toNat : Int) := by
  have hk : u < (tabL g N).length := by rw [tabL_length]; exact hu
  have h1 : (tabL g N)[u] = 48 + ((g u).toNat : Int) := by
    have := tabL_at g hu
    rw [List.getElem?_eq_getElem hk] at this
    exact Option.some.inj this
  rw [numsT_get _ u hk, h1]
  cases g u <;> rfl
/-- a row of numbers, where it is and what it has -/
theorem own_list {w : World} {B : Nat} {e : TypeId} {v : Value} {xs : List Int} (h : w.ownsRow B e 1 v xs.length (xs.map (Value.int .i64))) :
    ∃ b cap, v = .slice b xs.length cap ∧ ((b = none ∧ xs = []) ∨ ∃ g, b = some ⟨g, 0, none⟩ ∧ xs.length ≤ cap ∧ ∀ i, (hi : i < xs.length) → w.cell? ⟨g, i, none⟩ = some (.int .i64 xs[i])) := by
  rcases SL.of_own h with ⟨rfl, rfl⟩ | ⟨g, cap, rfl, h1, _, _, h2, _⟩
  · exact ⟨none, 0, rfl, .inl ⟨rfl, rfl⟩⟩
  · exact ⟨_, cap, rfl, .inr ⟨g, rfl, h1, h2⟩⟩
theorem degreeOf_any (n : Nat) (s : ByteArray) (w : World) (h : TabP n s) :
    Calls Try.prog 16 #[.string s] w fun e w' => e = .returned (.tuple #[.int .i64 (mxL (prodL (Wh.mob (tb s) n) s.size)), .bool true]) ∧ Below w.heap.size w w' := by
  have HF : Hid (∀ W : World, Calls Try.prog 46 #[.string s] W fun e w' => e = .returned (.tuple #[.agg #[.int .i64 n, .int .u64 (val s s.size)], .bool true]) ∧ Below W.heap.size W w') := fun W => funOf_yes n s W h
  have hp := pow6 h.2.1
  rw [← h.1] at hp
  have HP : Hid (∀ W : World, Calls Try.prog 49 #[.agg #[.int .i64 n, .int .u64 (val s s.size)]] W fun e w' => ∃ v, e = .returned v ∧ w'.ownsRow W.heap.size 2 1 v (prodL (Wh.mob (tb s) n) s.size).length ((prodL (Wh.mob (tb s) n) s.size).map (Value.int .i64)) ∧ Below W.heap.size W w') := fun W => by
    have := products_any n (tb s) W h.2.1
    rw [← h.1] at this
    exact this
  have HM : Hid (∀ z ∈ prodL (Wh.mob (tb s) n) s.size, 0 ≤ z ∧ z < 64) := fun z hz => by
    have := Wt.prodL_mem _ hz
    omega
  have hll := Wt.prodL_length (Wh.mob (tb s) n) s.size
  obtain ⟨l, hl⟩ : ∃ l, prodL (Wh.mob (tb s) n) s.size = l := ⟨_, rfl⟩
  obtain ⟨U, hU⟩ : ∃ U, val s s.size = U := ⟨_, rfl⟩
  rw [hl] at HP HM hll ⊢
  rw [hU] at HF HP
  clear hU hl h
  go_enter Try.func16, Try.ntmps16
  go_wp2_with (first | (go_at_call 46; refine (HF.out _).mono ?_; rintro e w1 ⟨rfl, hb1⟩) | (go_at_call 49; refine (HP.out _).mono ?_; rintro e w2 ⟨v, rfl, hown, hb2⟩; have B1 := hb1.alloc hb1.size (.cells #[.int .i64 n, .int .u64 U] 57); have B2 := B1.trans (hb2.mono B1.size); obtain ⟨bp, cap, rfl, hc⟩ := own_list hown; have HC := Lib.hid hc; have HB := Lib.hid B2; clear hown hb1 hb2 B1 B2 hc))
  go_loop [6, 8, 19] (fun d _ jv => ∃ j : Nat, j ≤ l.length ∧ jv = .int .i64 j ∧ d = .int .i64 (mxL (l.take j))) (fun _ _ jv => l.length - (intOf jv).toNat)
  case atStart => exact ⟨0, Nat.zero_le _, rfl, rfl⟩
  case round =>
    obtain ⟨j, hj, rfl, rfl⟩ := hrel
    by_cases hlt : j < l.length
    · rcases HC.out with ⟨_, h0⟩ | ⟨g, rfl, hcap, hc⟩
      · subst h0; simp at hlt
      · have hz := HM.out l[j] (List.getElem_mem hlt)
        have c0 := hc j hlt
        have HS := Lib.hid (Wt.take_snoc (List.getElem?_eq_getElem hlt))
        have HX := Lib.hid (Wt.mxL_snoc (l.take j) l[j])
        have hm := Wt.mxL_le (l.take j)
        obtain ⟨z, hzz⟩ : ∃ z, l[j] = z := ⟨_, rfl⟩
        obtain ⟨d, hd⟩ : ∃ d, mxL (l.take j) = d := ⟨_, rfl⟩
        rw [hzz] at c0 hz HS HX
        rw [hd] at HX hm ⊢
        obtain ⟨x, rfl⟩ := Int.eq_ofNat_of_zero_le hz.1
        have HW : Hid (∀ W : World, Calls Try.prog 50 #[.int .i64 x] W fun e w' => e = .returned (.int .i64 (Pop.pcF 64 x)) ∧ W = w') := fun W => weightOf_any x W (by omega)
        have HX2 : Hid (mxL (l.take (j + 1)) = if d < Pop.pcF 64 x then Pop.pcF 64 x else d) := by
          unfold Hid
          rw [HS.out, HX.out]
          simp
        have hpx := Pop.pcF_le 64 x
        obtain ⟨q, hq⟩ : ∃ q, Pop.pcF 64 x = q := ⟨_, rfl⟩
        rw [hq] at HW HX2 hpx
        clear hzz hd hq HX HS hc hz
        go_wp2_with (go_at_call 50; refine (HW.out _).mono ?_; rintro e w3 ⟨rfl, rfl⟩)
        go_round
        case rel => exact ⟨j + 1, by omega, by go_num, by rw [HX2.out]; congr 1; split <;> omega⟩
        case measure => simp [intOf]; omega
    · obtain rfl : j = l.length := by omega
      rw [List.take_length]
      go_wp2
      go_ret2
      exact ⟨rfl, HB.out⟩
theorem l04Degree_any (n : Nat) (s : ByteArray) (w : World) (h : TabP n s) :
    Calls Try.prog 68 #[.string s] w fun e w' => e = .returned (.int .i64 (mxL (prodL (Wh.mob (tb s) n) s.size))) ∧ Below w.heap.size w w' := by
  have hp := pow6 h.2.1
  rw [← h.1] at hp
  have HN : Hid (∀ W : World, Calls Try.prog 67 #[.string s] W fun e w' => e = .returned (.string (strOfNums (tabL (Wh.mob (tb s) n) s.size))) ∧ Below W.heap.size W w') := fun W => by
    have := l04Normal_any n s W h
    rwa [nfS_mob h] at this
  obtain ⟨g, hg⟩ : ∃ g, Wh.mob (tb s) n = g := ⟨_, rfl⟩
  rw [hg] at HN ⊢
  have HT : Hid (∃ T : ByteArray, strOfNums (tabL g s.size) = T ∧ T.size = s.size ∧ ∀ u, (hu : u < T.size) → ((T[u]'hu).toNat : Int) = 48 + ((g u).toNat : Int)) := by
    exact ⟨_, rfl, by rw [strOfNums_size, tabL_length], fun u hu => tabL_str g _ u (by rwa [strOfNums_size, tabL_length] at hu) hu⟩
  obtain ⟨T, hT, hTs, hv⟩ := HT.out
  rw [hT] at HN
  have HV := Lib.hid hv
  have HS := Lib.hid hTs
  rw [← hTs] at hp ⊢
  clear hT hTs hv hg h HT
  go_enter Try.func68, Try.ntmps68
  go_wp2_with (go_at_call 67; refine (HN.out _).mono ?_; rintro e w1 ⟨rfl, hb1⟩)
  go_loop [4, 5] (fun d uv => ∃ u : Nat, u ≤ T.size ∧ uv = .int .i64 u ∧ d = .int .i64 (mxL (prodL g u))) (fun _ uv => T.size - (intOf uv).toNat)
  case atStart => exact ⟨0, Nat.zero_le _, rfl, rfl⟩
  case round =>
    obtain ⟨u, hu, rfl, rfl⟩ := hrel
    by_cases hlt : u < T.size
    · have hx := HV.out u hlt
      have hm := Wt.mxL_le (prodL g u)
      have HX := Lib.hid (Wt.mxL_snoc (prodL g u) (u : Int))
      obtain ⟨d, hd⟩ : ∃ d, mxL (prodL g u) = d := ⟨_, rfl⟩
      rw [hd] at hm HX ⊢
      cases hb : g u with
      | false =>
        have HP := Lib.hid (Wt.prodL_no hb)
        rw [hb] at hx
        have hc : (((T[u]'hlt).toNat : Int) == 49) = false := by rw [hx]; rfl
        clear hx hb HX
        go_wp2
        go_round
        case rel => exact ⟨u + 1, by omega, by go_num, by rw [HP.out, hd]⟩
        case measure => simp [intOf]; omega
      | true =>
        have HP := Lib.hid (Wt.prodL_yes hb)
        rw [hb] at hx
        have hc : (((T[u]'hlt).toNat : Int) == 49) = true := by rw [hx]; rfl
        have HW : Hid (∀ W : World, Calls Try.prog 87 #[.int .i64 u] W fun e w' => e = .returned (.int .i64 (Pop.pcF 64 u)) ∧ W = w') := fun W => l04Weight_any u W (by omega)
        have HX2 : Hid (mxL (prodL g (u + 1)) = if d < Pop.pcF 64 u then Pop.pcF 64 u else d) := by
          unfold Hid
          rw [HP.out, HX.out]
          simp
        have hpx := Pop.pcF_le 64 u
        obtain ⟨q, hq⟩ : ∃ q, Pop.pcF 64 u = q := ⟨_, rfl⟩
        rw [hq] at HW HX2 hpx
        have HXX : Hid (∀ W : World, Calls Try.prog 65 #[.int .i64 d, .int .i64 q] W fun e w' => e = .returned (.int .i64 (if (q : Int) < d then d else q)) ∧ W = w') := fun W => l00MaxT_any d q W
        clear hx hb HX hd hq
        go_wp2_with (first | (go_at_call 87; refine (HW.out _).mono ?_; rintro e w3 ⟨rfl, rfl⟩) | (go_at_call 65; refine (HXX.out _).mono ?_; rintro e w3 ⟨rfl, rfl⟩))
        go_round
        case rel => exact ⟨u + 1, by omega, by go_num, by rw [HX2.out]; congr 1; split <;> split <;> omega⟩
        case measure => simp [intOf]; omega
    · obtain rfl : u = T.size := by omega
      go_wp2
      go_ret
      exact ⟨rfl, hb1⟩
theorem specDegreeOf_any (n : Nat) (s : ByteArray) (w : World) (h : TabP n s) :
    Calls Try.prog 38 #[.string s] w fun e w' => e = .returned (.tuple #[.int .i64 (mxL (prodL (Wh.mob (tb s) n) s.size)), .bool true]) ∧ Below w.heap.size w w' := by
  have HF : Hid (∀ W : World, Calls Try.prog 63 #[.string s] W fun e w' => e = .returned (.bool true) ∧ W = w') := fun W => l04Table_yes n s W h
  have HN : Hid (∀ W : World, Calls Try.prog 68 #[.string s] W fun e w' => e = .returned (.int .i64 (mxL (prodL (Wh.mob (tb s) n) s.size))) ∧ Below W.heap.size W w') := fun W => l04Degree_any n s W h
  obtain ⟨d, hd⟩ : ∃ d, mxL (prodL (Wh.mob (tb s) n) s.size) = d := ⟨_, rfl⟩
  rw [hd] at HN ⊢
  clear hd h
  go_enter Try.func38, Try.ntmps38
  go_wp2_with (first | (go_at_call 63; refine (HF.out _).mono ?_; rintro e w1 ⟨rfl, rfl⟩) | (go_at_call 68; refine (HN.out _).mono ?_; rintro e w2 ⟨rfl, hb2⟩))
  go_ret2
  exact ⟨rfl, hb2⟩
theorem lawDegreeOf (s : ByteArray) (w : World) (hm : s.size ≤ maxLen) :
    Calls Try.prog 11 #[.string s] w fun e w' => e = .returned (.bool true) ∧ Below w.heap.size w w' := by
  apply lawDegreeOf_all s w hm
  by_cases h : ∃ n, TabP n s
  · obtain ⟨n, h⟩ := h
    exact ⟨_, true, fun W => specDegreeOf_any n s W h, fun W => degreeOf_any n s W h⟩
  · exact ⟨_, false, fun W => (specDegreeOf_no s W hm h).mono fun e w' ⟨he, hw⟩ => ⟨he, by rw [← hw]; exact Below.refl _ _⟩, fun W => implDegreeOf_no s W hm h⟩
end Go.Proofs.Ytgpcacbjmjpdnaa
