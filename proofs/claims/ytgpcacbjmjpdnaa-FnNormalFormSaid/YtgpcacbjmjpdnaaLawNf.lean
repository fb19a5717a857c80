/- The law FnNormalForm. -/
import Derived.Test.YtgpcacbjmjpdnaaDeg
import Derived.Test.YtgpcacbjmjpdnaaDrawTab
import Derived.Test.YtgpcacbjmjpdnaaW8
namespace Go.Proofs.Ytgpcacbjmjpdnaa
open Go.RowKit Go.PlainAid
open Wt (prodL mxL)
set_option maxHeartbeats 1000000

theorem str_ext {s t : ByteArray} (h : s.size = t.size) (h2 : ∀ k, (hs : k < s.size) → (ht : k < t.size) → (s[k]'hs).toNat = (t[k]'ht).toNat) : s = t := by
  apply ByteArray.ext
  apply Array.ext
  · exact h
  · intro i h3 h4
    exact UInt8.toNat_inj.1 (h2 i h3 h4)
theorem tb_tabL (g : Nat → Bool) {N u : Nat} (h : u < N) : tb (strOfNums (tabL g N)) u = g u := by
  have hs : u < (strOfNums (tabL g N)).size := by rw [strOfNums_size, tabL_length]; exact h
  have h1 := tabL_str g N u h hs
  unfold tb
  rw [← get_bt _ u hs, h1]
  cases g u <;> simp
theorem tabL_self {n : Nat} {s : ByteArray} (h : TabP n s) : strOfNums (tabL (tb s) s.size) = s := by
  apply str_ext
  · rw [strOfNums_size, tabL_length]
  · intro k h1 h2
    have e1 := tabL_str (tb s) s.size k h2 h1
    have e2 := h.val h2
    rw [← get_bt s k h2] at e2
    omega
theorem tabP_form {n : Nat} {s : ByteArray} (g : Nat → Bool) (h : TabP n s) : TabP n (strOfNums (tabL g s.size)) := by
  refine ⟨by rw [strOfNums_size, tabL_length]; exact h.1, h.2.1, fun k hk => ?_⟩
  have hk2 : k < s.size := by rwa [strOfNums_size, tabL_length] at hk
  rw [tabL_str g s.size k hk2 hk]
  have : (g k).toNat ≤ 1 := Bool.toNat_le _
  omega
theorem form_back {n : Nat} {s : ByteArray} (h : TabP n s) : strOfNums (tabL (Wh.mob (tb (strOfNums (tabL (Wh.mob (tb s) n) s.size))) n) s.size) = s := by
  have e : tabL (Wh.mob (tb (strOfNums (tabL (Wh.mob (tb s) n) s.size))) n) s.size = tabL (tb s) s.size := tabL_congr fun y hy => by
    rw [Wh.mob_congr (n := n) (g' := Wh.mob (tb s) n) (fun z hz => tb_tabL _ (by rw [h.1]; exact hz)) n (Nat.le_refl _) y (by rw [← h.1]; exact hy)]
    exact Wh.mob_mob (tb s) n y
  rw [e]
  exact tabL_self h
theorem nfTo_all (g : Nat → Bool) (n x : Nat) (hx : x < 2 ^ n) : Wh.nfTo (Wh.mob g n) x (2 ^ n) = g x := by
  have h1 := Wh.mob_nf (Wh.mob g n) hx
  rw [Wh.mob_mob] at h1
  have h2 := Wh.nfTo_far (Wh.mob g n) x (2 ^ n - (x + 1))
  rw [show x + 1 + (2 ^ n - (x + 1)) = 2 ^ n by omega] at h2
  rw [h2, ← h1]
set_option maxRecDepth 16000 in
theorem lawNf (a0 : Option Addr) (len0 cap0 : Nat) (a1 : Option Addr) (len1 cap1 : Nat) (w : World) (C0 : Code w w.heap.size a0 len0) (C1 : Code w w.heap.size a1 len1) (l0 : len0 ≤ 9223372036854775807) (l1 : len1 ≤ 9223372036854775807) :
    Calls Try.prog 3 #[.slice a0 len0 cap0, .slice a1 len1 cap1] w fun e w' => e = .returned (.bool true) ∧ Below w.heap.size w w' := by
  by_cases hl : len0 ≤ 48 ∧ len1 ≤ 48
  · obtain ⟨h0, h1⟩ := hl
    have HC0 := Lib.hid C0
    have HC1 := Lib.hid C1
    clear C0 C1
    go_enter Try.func3, Try.ntmps3
    go_wp2_with fail
    refine (r8Long_no _ _ _ _ _ _ _ h0 h1).mono ?_
    rintro e w0 ⟨rfl, rfl⟩
    go_wp2_with fail
    refine (r8Table_any a0 len0 cap0 w HC0.out (by omega)).mono ?_
    rintro e w1 ⟨n, s, rfl, hn4, hT, hb1⟩
    have HF : Hid (∀ W : World, Calls Try.prog 15 #[.string s] W fun e w' => e = .returned (.tuple #[.string (strOfNums (tabL (Wh.mob (tb s) n) s.size)), .bool true]) ∧ Below W.heap.size W w') := fun W => nf_any n s W hT
    have HG : Hid (∀ W : World, Calls Try.prog 15 #[.string (strOfNums (tabL (Wh.mob (tb s) n) s.size))] W fun e w' => e = .returned (.tuple #[.string s, .bool true]) ∧ Below W.heap.size W w') := fun W => by
      have := nf_any n _ W (tabP_form (Wh.mob (tb s) n) hT)
      rw [strOfNums_size, tabL_length, form_back hT] at this
      exact this
    have HD : Hid (∀ W : World, Calls Try.prog 16 #[.string s] W fun e w' => e = .returned (.tuple #[.int .i64 (mxL (prodL (Wh.mob (tb s) n) s.size)), .bool true]) ∧ Below W.heap.size W w') := fun W => degreeOf_any n s W hT
    have HI : Hid (∀ W : World, Calls Try.prog 17 #[.string s] W fun e w' => e = .returned (.tuple #[.int .i64 n, .bool true]) ∧ Below W.heap.size W w') := fun W => inputsOf_b s n _ true W (fun W => funOf_yes n s W hT) (fun x => by cases x)
    have HVA : Hid (∀ (x : Nat) (W : World), x < s.size → Calls Try.prog 20 #[.string s, .int .i64 x] W fun e w' => e = .returned (.tuple #[.int .i64 (Wh.nfTo (Wh.mob (tb s) n) x s.size).toNat, .bool true]) ∧ Below W.heap.size W w') := fun x W hx => by
      have := valueAt_yes s n x W hT hx
      rwa [← nfTo_all (tb s) n x (by rw [← hT.1]; exact hx), ← hT.1] at this
    have hp := pow6 hT.2.1
    have hpw := wrap_pow hT.2.1
    rw [← hT.1] at hp hpw
    have HTB : Hid (∃ T : ByteArray, strOfNums (tabL (Wh.mob (tb s) n) s.size) = T ∧ T.size = s.size ∧ ∀ u, (hu : u < T.size) → ((T[u]'hu).toNat : Int) = 48 + ((Wh.mob (tb s) n u).toNat : Int)) := by
      exact ⟨_, rfl, by rw [strOfNums_size, tabL_length], fun u hu => tabL_str _ _ u (by rwa [strOfNums_size, tabL_length] at hu) hu⟩
    obtain ⟨T, hTT, hTs, hv⟩ := HTB.out
    rw [hTT] at HF HG
    have HV := Lib.hid hv
    obtain ⟨g, hg⟩ : ∃ g, Wh.mob (tb s) n = g := ⟨_, rfl⟩
    rw [hg] at HD HVA HV
    obtain ⟨N, hN⟩ : ∃ N, s.size = N := ⟨_, rfl⟩
    rw [hN] at HD HVA hp hpw hTs
    have hml := Wt.mxL_le (prodL g N)
    obtain ⟨d, hd⟩ : ∃ d, mxL (prodL g N) = d := ⟨_, rfl⟩
    rw [hd] at HD hml
    have HDD := Lib.hid hd
    have hq1 : ((N : Int) != (N : Int)) = false := by simp
    have HB1 := Lib.hid hb1
    clear hT hTT hv hg hd HTB hb1
    go_wp2_with fail
    refine (HF.out _).mono ?_
    rintro e w2 ⟨rfl, hb2⟩
    have HB2 := Lib.hid (HB1.out.trans (hb2.mono HB1.out.size))
    clear hb2 HB1 HF
    go_wp2_with fail
    refine (HG.out _).mono ?_
    rintro e w3 ⟨rfl, hb3⟩
    have HB3 := Lib.hid (HB2.out.trans (hb3.mono HB2.out.size))
    clear hb3 HB2 HG
    go_wp2_with fail
    refine (HD.out _).mono ?_
    rintro e w4 ⟨rfl, hb4⟩
    have HB4 := Lib.hid (HB3.out.trans (hb4.mono HB3.out.size))
    clear hb4 HB3 HD
    go_wp2_with fail
    refine (HI.out _).mono ?_
    rintro e w5 ⟨rfl, hb5⟩
    have HB5 := Lib.hid (HB4.out.trans (hb5.mono HB4.out.size))
    clear hb5 HB4 HI
    go_wp2_with fail
    refine (r8At_any a1 len1 cap1 0 N w.heap.size _ (HC1.out.below HB5.out) (by omega) (by omega) (by omega) (by omega)).mono ?_
    rintro e w6 ⟨x, rfl, hxN, m6, rfl⟩
    have hxN : x < N := by omega
    have HB6 := Lib.hid (below_drewN HB5.out m6)
    have HVX := Lib.hid (HVA.out x)
    clear HB5 HVA
    go_wp2
    go_loop [14, 16, 17] (fun mv sv uv => ∃ u : Nat, u ≤ N ∧ uv = .int .i64 u ∧ mv = .int .i64 (mxL (prodL g u)) ∧ sv = .int .i64 (Wh.nfTo g x u).toNat) (fun _ _ uv => N - (intOf uv).toNat)
    case atStart => exact ⟨0, Nat.zero_le _, rfl, rfl, rfl⟩
    case round =>
      obtain ⟨u, hu, rfl, rfl, rfl⟩ := hrel
      by_cases hlt : u < N
      · have hut : u < T.size := by omega
        have hx := HV.out u hut
        have hm := Wt.mxL_le (prodL g u)
        have HX := Lib.hid (Wt.mxL_snoc (prodL g u) (u : Int))
        have HNF := Lib.hid (Wh.nfTo_succ g x u)
        obtain ⟨d2, hd2⟩ : ∃ d, mxL (prodL g u) = d := ⟨_, rfl⟩
        obtain ⟨f, hf⟩ : ∃ f, Wh.nfTo g x u = f := ⟨_, rfl⟩
        rw [hd2] at hm HX ⊢
        rw [hf] at HNF ⊢
        have hf1 : f.toNat ≤ 1 := Bool.toNat_le _
        cases hb : g u with
        | false =>
          have HP := Lib.hid (Wt.prodL_no hb)
          rw [hb] at hx HNF
          have hc : (((T[u]'hut).toNat : Int) == 48) = true := by rw [hx]; rfl
          have HN2 : Hid (Wh.nfTo g x (u + 1) = f) := by unfold Hid; rw [HNF.out]; simp
          clear hx hb HX HNF hf
          go_wp2
          go_round
          case rel => exact ⟨u + 1, by omega, by go_num, by rw [HP.out, hd2], by rw [HN2.out]⟩
          case measure => simp [intOf]; omega
        | true =>
          have HP := Lib.hid (Wt.prodL_yes hb)
          rw [hb] at hx HNF
          have hc : (((T[u]'hut).toNat : Int) == 48) = false := by rw [hx]; rfl
          have HW : Hid (∀ W : World, Calls Try.prog 19 #[.int .i64 u] W fun e w' => e = .returned (.int .i64 (Pop.pcF 64 u)) ∧ W = w') := fun W => r8Weight_any u W (by omega)
          have HX2 : Hid (mxL (prodL g (u + 1)) = if d2 < Pop.pcF 64 u then Pop.pcF 64 u else d2) := by
            unfold Hid
            rw [HP.out, HX.out]
            simp
          have hpx := Pop.pcF_le 64 u
          obtain ⟨q, hq⟩ : ∃ q, Pop.pcF 64 u = q := ⟨_, rfl⟩
          rw [hq] at HW HX2 hpx
          have hand := i64_andT u x (by omega) (by omega)
          have hxor : bits .xor .i64 (f.toNat : Int) 1 = ((!f).toNat : Int) := by cases f <;> decide +kernel
          by_cases hy : u &&& x = u
          · have HN2 : Hid (Wh.nfTo g x (u + 1) = !f) := by unfold Hid; rw [HNF.out]; simp [hy]
            rw [hy] at hand
            clear hx hb HX HNF hf hq hd2 hy
            by_cases hqd : d2 < q
            · have HX3 : Hid (mxL (prodL g (u + 1)) = q) := by unfold Hid; rw [HX2.out, if_pos hqd]
              go_wp2_with (go_at_call 19; refine (HW.out _).mono ?_; rintro e w7 ⟨rfl, rfl⟩)
              go_round
              case rel => exact ⟨u + 1, by omega, by go_num, by rw [HX3.out], by rw [HN2.out]⟩
              case measure => simp [intOf]; omega
            · have HX3 : Hid (mxL (prodL g (u + 1)) = d2) := by unfold Hid; rw [HX2.out, if_neg hqd]
              go_wp2_with (go_at_call 19; refine (HW.out _).mono ?_; rintro e w7 ⟨rfl, rfl⟩)
              go_round
              case rel => exact ⟨u + 1, by omega, by go_num, by rw [HX3.out], by rw [HN2.out]⟩
              case measure => simp [intOf]; omega
          · have HN2 : Hid (Wh.nfTo g x (u + 1) = f) := by unfold Hid; rw [HNF.out]; simp [hy]
            have hyb : (((u &&& x : Nat) : Int) == (u : Int)) = false := by rw [beq_eq_false_iff_ne]; omega
            obtain ⟨z, hz⟩ : ∃ z, u &&& x = z := ⟨_, rfl⟩
            rw [hz] at hand hyb
            clear hx hb HX HNF hf hq hd2 hy hz
            by_cases hqd : d2 < q
            · have HX3 : Hid (mxL (prodL g (u + 1)) = q) := by unfold Hid; rw [HX2.out, if_pos hqd]
              go_wp2_with (go_at_call 19; refine (HW.out _).mono ?_; rintro e w7 ⟨rfl, rfl⟩)
              go_round
              case rel => exact ⟨u + 1, by omega, by go_num, by rw [HX3.out], by rw [HN2.out]⟩
              case measure => simp [intOf]; omega
            · have HX3 : Hid (mxL (prodL g (u + 1)) = d2) := by unfold Hid; rw [HX2.out, if_neg hqd]
              go_wp2_with (go_at_call 19; refine (HW.out _).mono ?_; rintro e w7 ⟨rfl, rfl⟩)
              go_round
              case rel => exact ⟨u + 1, by omega, by go_num, by rw [HX3.out], by rw [HN2.out]⟩
              case measure => simp [intOf]; omega
      · obtain rfl : u = N := by omega
        rw [HDD.out]
        obtain ⟨f, hf⟩ : ∃ f, (Wh.nfTo g x u).toNat = f := ⟨_, rfl⟩
        have HVX2 : Hid (∀ W : World, Calls Try.prog 20 #[.string s, .int .i64 x] W fun e w' => e = .returned (.tuple #[.int .i64 f, .bool true]) ∧ Below W.heap.size W w') := fun W => by
          have := HVX.out W hxN
          rwa [hf] at this
        rw [hf]
        have hff : ((f : Int) == (f : Int)) = true := by simp
        have hdd : ((d : Int) == (d : Int)) = true := by simp
        clear hf HVX
        go_wp2_with (go_at_call 20; refine (HVX2.out _).mono ?_; rintro e w7 ⟨rfl, hb7⟩)
        go_ret
        exact ⟨rfl, HB6.out.trans (hb7.mono HB6.out.size)⟩
  · have HH := Lib.hid hl
    clear hl C0 C1
    go_enter Try.func3, Try.ntmps3
    go_wp2_with (go_at_call 13; refine (r8Long_yes _ _ _ _ _ _ _ l0 l1 HH.out).mono ?_; rintro e w0 ⟨rfl, rfl⟩)
    go_ret
    exact ⟨rfl, Below.refl _ _⟩
end Go.Proofs.Ytgpcacbjmjpdnaa
