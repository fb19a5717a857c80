/- The law FnParseval. -/
import Derived.Test.YtgpcacbjmjpdnaaBal
import Derived.Test.YtgpcacbjmjpdnaaPars
import Derived.Test.YtgpcacbjmjpdnaaDrawTab
import Derived.Test.YtgpcacbjmjpdnaaW8
namespace Go.Proofs.Ytgpcacbjmjpdnaa
open Go.RowKit Go.PlainAid
open Wt (row pk off)
set_option maxHeartbeats 1000000

theorem pk_max (f : Nat → Int) : ∀ k b, b < k → (f b).natAbs ≤ (f (pk f k)).natAbs := by
  intro k
  induction k with
  | zero => intro b h; omega
  | succ k ih =>
    intro b hb
    by_cases h : (f (pk f k)).natAbs < (f k).natAbs
    · rw [Wt.pk_yes h]
      by_cases e : b = k
      · subst e; exact Nat.le_refl _
      · have := ih b (by omega); omega
    · rw [Wt.pk_no h]
      by_cases e : b = k
      · subst e; omega
      · exact ih b (by omega)
theorem xor_bitP (p : Nat) (c : Bool) : bits .xor .i64 ((p : Int) % 2) (c.toNat : Int) = (((p + c.toNat) % 2 : Nat) : Int) := by
  have h : ∀ c : Bool, bits .xor .i64 0 (c.toNat : Int) = ((c.toNat % 2 : Nat) : Int) ∧ bits .xor .i64 1 (c.toNat : Int) = (((1 + c.toNat) % 2 : Nat) : Int) := by decide +kernel
  rcases (show p % 2 = 0 ∨ p % 2 = 1 by omega) with e | e
  · rw [show (p : Int) % 2 = 0 by omega, (h c).1, show (p + c.toNat) % 2 = c.toNat % 2 by omega]
  · rw [show (p : Int) % 2 = 1 by omega, (h c).2, show (p + c.toNat) % 2 = (1 + c.toNat) % 2 by omega]
theorem sl_row {base top N : Nat} {w : World} {v : Value} {f : Nat → Int} (h : SL base top w v (row f N)) (hN : 0 < N) : ∃ G cap, v = .slice (some ⟨G, 0, none⟩) N cap ∧ G < top ∧ ∀ i, i < N → w.cell? ⟨G, i, none⟩ = some (.int .i64 (f i)) := by
  rcases h with ⟨_, h0⟩ | ⟨G, cap, rfl, _, _, hg, hc, _⟩
  · have := congrArg List.length h0
    rw [Wt.row_length] at this
    simp at this
    omega
  · refine ⟨G, cap, by rw [Wt.row_length], hg, fun i hi => ?_⟩
    have h1 := Wt.row_get (f := f) hi
    have h2 : i < (row f N).length := by rw [Wt.row_length]; exact hi
    rw [List.getElem?_eq_getElem h2] at h1
    rw [hc i h2, Option.some.inj h1]
set_option maxRecDepth 8000 in
theorem r8Differ_any (n a : Nat) (c : Bool) (s : ByteArray) (w : World) (h : TabP n s) (ha : a < 64) :
    Calls Try.prog 25 #[.string s, .int .i64 a, .int .i64 c.toNat] w fun e w' => e = .returned (.int .i64 (off (tb s) a c s.size)) ∧ ∃ m, w' = w.drewN m := by
  have hp := pow6 h.2.1
  rw [← h.1] at hp
  have HV : Hid (∀ y, (hy : y < s.size) → (((s[y]'hy).toNat : Nat) : Int) = 48 + ((tb s y).toNat : Int)) := fun y hy => by
    have := h.val hy
    rwa [← get_bt s y hy] at this
  have hc1 : c.toNat ≤ 1 := Bool.toNat_le _
  clear h
  go_enter Try.func25, Try.ntmps25
  go_wp2
  go_loopw [7, 8] (fun dv kv wr => ∃ k m : Nat, k ≤ s.size ∧ kv = .int .i64 k ∧ dv = .int .i64 (off (tb s) a c k) ∧ wr = w.drewN m) (fun _ kv _ => s.size - (intOf kv).toNat)
  case atStart => exact ⟨0, 0, Nat.zero_le _, rfl, rfl, rfl⟩
  case round =>
    obtain ⟨k, m, hk, rfl, rfl, hwi⟩ := hrel
    have HW := Lib.hid hwi
    clear hwi
    have hol := Wt.off_le (tb s) a c k
    by_cases hlt : k < s.size
    · have hand := i64_andT a k (by omega) (by omega)
      have hql : a &&& k ≤ k := Nat.and_le_right
      have hv := HV.out k hlt
      have HO : Hid (off (tb s) a c (k + 1) = if ((tb s k).toNat = (Pop.pcF 64 (a &&& k) + c.toNat) % 2) then off (tb s) a c k else off (tb s) a c k + 1) := rfl
      obtain ⟨q, hq⟩ : ∃ q, a &&& k = q := ⟨_, rfl⟩
      rw [hq] at hand hql HO
      have HP : Hid (∀ W : World, Calls Try.prog 19 #[.int .i64 q] W fun e w' => e = .returned (.int .i64 (Pop.pcF 64 q)) ∧ W = w') := fun W => r8Weight_any q W (by omega)
      have hpl := Pop.pcF_le 64 q
      have hx := xor_bitP (Pop.pcF 64 q) c
      obtain ⟨p, hpp⟩ : ∃ p, Pop.pcF 64 q = p := ⟨_, rfl⟩
      rw [hpp] at HP hpl hx HO
      obtain ⟨z, hz⟩ : ∃ z, (p + c.toNat) % 2 = z := ⟨_, rfl⟩
      rw [hz] at hx HO
      obtain ⟨g, hg⟩ : ∃ g, tb s k = g := ⟨_, rfl⟩
      rw [hg] at hv HO
      have hg1 : g.toNat ≤ 1 := Bool.toNat_le _
      obtain ⟨d, hd⟩ : ∃ d, off (tb s) a c k = d := ⟨_, rfl⟩
      rw [hd] at hol HO ⊢
      have hvv : IntKind.u8.wrap ((s[k].toNat : Int) - 48) = (g.toNat : Int) := by rw [hv]; exact by cases g <;> rfl
      have hm2 : ((p : Int).tmod 2) = (p : Int) % 2 := by rw [Int.tmod_eq_emod_of_nonneg (by omega)]
      by_cases hgz : g.toNat = z
      · have hb : ((g.toNat : Int) != (z : Int)) = false := by simp [hgz]
        have HS : Hid (off (tb s) a c (k + 1) = d) := by unfold Hid; rw [HO.out, if_pos hgz]
        clear hq hpp hz hg hd HO hgz
        go_wp2
        go_quiet ((go_at_call 19; exact quietG (HP.out _)))
        clear hvv hm2
        go_wp2
        go_roundw
        case rel => exact ⟨k + 1, m + nq, by omega, by go_num, by rw [HS.out], by rw [HW.out, drewN_twoG]⟩
        case measure => simp [intOf]; omega
      · have hb : ((g.toNat : Int) != (z : Int)) = true := by simp; omega
        have HS : Hid (off (tb s) a c (k + 1) = d + 1) := by unfold Hid; rw [HO.out, if_neg hgz]
        clear hq hpp hz hg hd HO hgz
        go_wp2
        go_quiet ((go_at_call 19; exact quietG (HP.out _)))
        clear hvv hm2
        go_wp2
        go_roundw
        case rel => exact ⟨k + 1, m + nq, by omega, by go_num, by rw [HS.out]; go_num, by rw [HW.out, drewN_twoG]⟩
        case measure => simp [intOf]; omega
    · obtain rfl : k = s.size := by omega
      go_wp2
      go_ret
      exact ⟨rfl, m, HW.out⟩
theorem abs_int (z : Int) : (z.natAbs : Int) = if z < 0 then -z else z := by
  split
  · exact Int.ofNat_natAbs_of_nonpos (by omega)
  · exact Int.natAbs_of_nonneg (by omega)
/-- what the spectrum of a table tells -/
theorem pars_pack (n : Nat) (s : ByteArray) (h : TabP n s) (f : Nat → Int) (hf : Wh.tr (Wt.sv (tb s)) n = f) :
    Wh.sm (fun a => f a * f a) s.size = (s.size : Int) * s.size ∧ (off (tb s) (pk f s.size) (decide (f (pk f s.size) < 0)) s.size : Int) = farOf f s.size ∧
    ∀ b c, b < s.size → farOf f s.size ≤ (off (tb s) b c s.size : Int) := by
  have hp := pow6 h.2.1
  have hn := h.2.1
  have hfa : ∀ a, a < 2 ^ n → f a = Wt.spe n (tb s) a (2 ^ n) := fun a ha => by rw [← hf, Wh.tr_top _ ha]; rfl
  rw [h.1]
  have hpk := Wt.pk_lt f (2 ^ n) (by omega)
  have ho1 : ∀ b, b < 2 ^ n → f b = ((2 ^ n : Nat) : Int) - 2 * (off (tb s) b false (2 ^ n) : Int) := fun b hb => by
    rw [hfa b hb]
    exact Wt.off_spe (tb s) false hb (by omega) (2 ^ n)
  have ho2 : ∀ b, b < 2 ^ n → f b = 2 * (off (tb s) b true (2 ^ n) : Int) - ((2 ^ n : Nat) : Int) := fun b hb => by
    rw [hfa b hb]
    have h2 : -Wt.spe n (tb s) b (2 ^ n) = _ := Wt.off_spe (tb s) true hb (by omega) (2 ^ n)
    omega
  refine ⟨?_, ?_, fun b c hb => ?_⟩
  · have h1 := Wt.parseval n (tb s)
    rw [← h1]
    exact Wh.sm_congr _ fun a ha => by rw [hfa a ha, Wt.spe_all]
  · have h1 := ho1 _ hpk
    have h2 := ho2 _ hpk
    unfold farOf
    rw [abs_int]
    generalize ((2 ^ n : Nat) : Int) = N at *
    by_cases hz : f (pk f (2 ^ n)) < 0
    · rw [decide_eq_true hz, if_pos hz]
      omega
    · rw [decide_eq_false hz, if_neg hz]
      omega
  · have h1 := ho1 _ hb
    have h2 := ho2 _ hb
    have h3 := abs_int (f b)
    have h4 : ((f b).natAbs : Int) ≤ ((f (pk f (2 ^ n))).natAbs : Int) := by have := pk_max f (2 ^ n) b hb; omega
    unfold farOf
    generalize ((f (pk f (2 ^ n))).natAbs : Int) = A at *
    generalize ((f b).natAbs : Int) = B at *
    generalize ((2 ^ n : Nat) : Int) = N at *
    have h5 : -(f b) ≤ B ∧ f b ≤ B := by
      rw [h3]
      split <;> omega
    cases c with
    | false => omega
    | true => omega
theorem sq_le {z : Int} (h : -16 ≤ z ∧ z ≤ 16) : 0 ≤ z * z ∧ z * z ≤ 256 := by
  have : ∀ m : Fin 33, 0 ≤ ((m.val : Int) - 16) * ((m.val : Int) - 16) ∧ ((m.val : Int) - 16) * ((m.val : Int) - 16) ≤ 256 := by decide +kernel
  have h2 := this ⟨(z + 16).toNat, by omega⟩
  have e : (((z + 16).toNat : Nat) : Int) - 16 = z := by omega
  simp only [e] at h2
  exact h2
theorem sq_le2 {z : Int} (h : -16 ≤ z ∧ z ≤ 16) : -256 ≤ z * z ∧ z * z ≤ 256 := by
  have := sq_le h
  omega
set_option maxRecDepth 16000 in
theorem lawPv (a0 : Option Addr) (len0 cap0 : Nat) (a1 : Option Addr) (len1 cap1 : Nat) (w : World) (C0 : Code w w.heap.size a0 len0) (C1 : Code w w.heap.size a1 len1) (l0 : len0 ≤ 9223372036854775807) (l1 : len1 ≤ 9223372036854775807) :
    Calls Try.prog 4 #[.slice a0 len0 cap0, .slice a1 len1 cap1] w fun e w' => e = .returned (.bool true) ∧ Below w.heap.size w w' := by
  by_cases hl : len0 ≤ 48 ∧ len1 ≤ 48
  · obtain ⟨h0, h1⟩ := hl
    have HC0 := Lib.hid C0
    have HC1 := Lib.hid C1
    clear C0 C1
    go_enter Try.func4, Try.ntmps4
    go_wp2_with fail
    refine (r8Long_no _ _ _ _ _ _ _ h0 h1).mono ?_
    rintro e w0 ⟨rfl, rfl⟩
    go_wp2_with fail
    refine (r8Table_any a0 len0 cap0 w HC0.out (by omega)).mono ?_
    rintro e w1 ⟨n, s, rfl, hn4, hT, hb1⟩
    obtain ⟨f, hf⟩ : ∃ f, Wh.tr (Wt.sv (tb s)) n = f := ⟨_, rfl⟩
    obtain ⟨hp, hfb, _, _⟩ := spec_pack n s hT f hf
    obtain ⟨p1, p2, p3⟩ := pars_pack n s hT f hf
    have HSp : Hid (GivesList 21 #[.string s] (row f s.size) true) := by
      have := spectrumOf_any n s hT
      rwa [hf] at this
    have HBa : Hid (Gives Try.prog 22 #[.string s] (.tuple #[.int .i64 (f 0), .bool true])) := by
      have := balanceOf_any n s hT
      rwa [hf] at this
    have HNo : Hid (Gives Try.prog 23 #[.string s] (.tuple #[.int .i64 (farOf f s.size), .bool true])) := by
      have := nonlinearityOf_any n s hT
      rwa [hf] at this
    have HNe : Hid (Gives Try.prog 24 #[.string s] (.tuple #[.int .i64 (pk f s.size), .int .i64 ((decide (f (pk f s.size) < 0)).toNat : Nat), .bool true])) := by
      have := nearestSum_any n s hT
      rw [hf] at this
      have e : addedOf f s.size = ((decide (f (pk f s.size) < 0)).toNat : Int) := by
        unfold addedOf
        by_cases hz : f (pk f s.size) < 0
        · rw [if_pos hz, decide_eq_true hz]; rfl
        · rw [if_neg hz, decide_eq_false hz]; rfl
      rwa [e] at this
    have HDi : Hid (∀ (b : Nat) (c : Bool) (W : World), b < 64 → Calls Try.prog 25 #[.string s, .int .i64 b, .int .i64 c.toNat] W fun e w' => e = .returned (.int .i64 (off (tb s) b c s.size)) ∧ ∃ m, w' = W.drewN m) := fun b c W hb => r8Differ_any n b c s W hT hb
    have hs16 : s.size ≤ 16 := by rw [hT.1]; exact Nat.pow_le_pow_right (n := 2) (by omega) hn4
    have hpk := Wt.pk_lt f s.size (by omega)
    have HOl : Hid (∀ b c, off (tb s) b c s.size ≤ s.size) := fun b c => Wt.off_le (tb s) b c s.size
    obtain ⟨o, ho⟩ : ∃ o, off (tb s) = o := ⟨_, rfl⟩
    rw [ho] at p2 p3 HDi HOl
    obtain ⟨N, hN⟩ : ∃ N, s.size = N := ⟨_, rfl⟩
    rw [hN] at hp hfb p1 p2 p3 HSp HNo HNe HDi hs16 hpk HOl
    have hNN := Lib.hid hN
    obtain ⟨c, hc⟩ : ∃ c, decide (f (pk f N) < 0) = c := ⟨_, rfl⟩
    obtain ⟨p, hpp⟩ : ∃ p, pk f N = p := ⟨_, rfl⟩
    obtain ⟨d, hd⟩ : ∃ d, farOf f N = d := ⟨_, rfl⟩
    rw [hpp] at hc HNe hpk p2
    rw [hc] at HNe p2
    rw [hd] at HNo p2 p3
    have H1 := Lib.hid p1
    have H2 := Lib.hid p2
    have H3 := Lib.hid p3
    have HFB := Lib.hid hfb
    have HB1 := Lib.hid hb1
    clear hT hf ho hN hc hpp hd p1 p2 p3 hfb hb1
    go_wp2_with fail
    refine (HSp.out _).mono ?_
    rintro e w2 ⟨v, rfl, hsl, hb2⟩
    obtain ⟨G, cap, rfl, hG, hcell⟩ := sl_row hsl (by omega)
    have HB2 := Lib.hid (HB1.out.trans (hb2.mono HB1.out.size))
    have HC := Lib.hid hcell
    clear hb2 HB1 hsl hcell HSp
    go_wp2_with fail
    refine (HBa.out _).mono ?_
    rintro e w3 ⟨rfl, hb3⟩
    have K3 := Lib.hid hb3
    clear hb3 HBa
    go_wp2_with fail
    refine (HNo.out _).mono ?_
    rintro e w4 ⟨rfl, hb4⟩
    have K4 := Lib.hid (K3.out.trans (hb4.mono K3.out.size))
    clear hb4 K3 HNo
    go_wp2_with fail
    refine (HNe.out _).mono ?_
    rintro e w5 ⟨rfl, hb5⟩
    have K5 := Lib.hid (K4.out.trans (hb5.mono K4.out.size))
    clear hb5 K4 HNe
    have HC5 : Hid (∀ i, i < N → w5.cell? ⟨G, i, none⟩ = some (.int .i64 (f i))) := fun i hi => (K5.out.cell (p := ⟨G, i, none⟩) hG).trans (HC.out i hi)
    have c0 := HC5.out 0 (by omega)
    have hf0 : (f 0 != f 0) = false := by simp
    have hns := hNN.out
    have hnb : ((N : Int) != (s.size : Int)) = false := by simp [hns]
    clear HC
    go_wp2
    go_loopw [15, 16] (fun sv kv wr => ∃ k m : Nat, k ≤ N ∧ kv = .int .i64 k ∧ sv = .int .i64 (Wh.sm (fun a => f a * f a) k) ∧ Hid (wr = w5.drewN m)) (fun _ kv _ => N - (intOf kv).toNat)
    case atStart => exact ⟨0, 0, Nat.zero_le _, rfl, rfl, rfl⟩
    case round =>
      obtain ⟨k, m, hk, rfl, rfl, HW⟩ := hrel
      by_cases hlt : k < N
      · have c1 : wr.cell? ⟨G, k, none⟩ = some (.int .i64 (f k)) := by rw [HW.out]; exact HC5.out k hlt
        have hfk : -16 ≤ f k ∧ f k ≤ 16 := by have := HFB.out k; omega
        have hsq := sq_le hfk
        have hsm := Wh.sm_le (fun a => f a * f a) 256 k (fun y _ => by have := HFB.out y; exact sq_le2 (by omega))
        have HS : Hid (Wh.sm (fun a => f a * f a) (k + 1) = Wh.sm (fun a => f a * f a) k + f k * f k) := rfl
        obtain ⟨S, hS⟩ : ∃ S, Wh.sm (fun a => f a * f a) k = S := ⟨_, rfl⟩
        rw [hS] at hsm HS ⊢
        obtain ⟨z, hz⟩ : ∃ z, f k = z := ⟨_, rfl⟩
        rw [hz] at hfk hsq HS c1
        have hw1 : IntKind.i64.wrap (z * z) = z * z := IntWalk.i64_in _ (by omega)
        have hw2 : IntKind.i64.wrap (S + z * z) = S + z * z := IntWalk.i64_in _ (by omega)
        clear hS hz hfk hsq hsm c0
        go_wp2
        go_quiet (fail)
        clear hw1 hw2
        go_wp2
        go_roundw
        case rel => exact ⟨k + 1, m + nq, by omega, by go_num, by rw [HS.out], by unfold Hid; rw [HW.out, drewN_twoG]⟩
        case measure => simp [intOf]; omega
      · obtain rfl : k = N := by omega
        rw [H1.out]
        have HBB : Hid (Below w.heap.size w wr) := by unfold Hid; rw [HW.out]; exact below_drewN (HB2.out.trans (K5.out.mono HB2.out.size)) m
        clear c0 HW K5 HC5 HB2
        go_wp2_with fail
        refine (HDi.out p c _ (by omega)).mono ?_
        rintro e w6 ⟨rfl, m6, hw6⟩
        have HB6 : Hid (Below w.heap.size w w6) := by rw [hw6]; exact below_drewN HBB.out m6
        clear hw6
        have ho1 := HOl.out p c
        go_wp2_with fail
        refine (r8At_any a1 len1 cap1 0 k w.heap.size _ (HC1.out.below HB6.out) (by omega) (by omega) (by omega) (by omega)).mono ?_
        rintro e w7 ⟨x, rfl, hx, m7, hw7⟩
        have HB7 : Hid (Below w.heap.size w w7) := by rw [hw7]; exact below_drewN HB6.out m7
        clear hw7
        go_wp2_with fail
        refine (r8At_any a1 len1 cap1 1 2 w.heap.size _ (HC1.out.below HB7.out) (by omega) (by omega) (by omega) (by omega)).mono ?_
        rintro e w8 ⟨y, rfl, hy, m8, hw8⟩
        have HB8 : Hid (Below w.heap.size w w8) := by rw [hw8]; exact below_drewN HB7.out m8
        clear hw8
        obtain ⟨cy, rfl⟩ : ∃ cy : Bool, y = cy.toNat := by
          rcases (show y = 0 ∨ y = 1 by omega) with e | e
          · exact ⟨false, e⟩
          · exact ⟨true, e⟩
        go_wp2_with fail
        refine (HDi.out x cy _ (by omega)).mono ?_
        rintro e w9 ⟨rfl, m9, hw9⟩
        have HB9 : Hid (Below w.heap.size w w9) := by rw [hw9]; exact below_drewN HB8.out m9
        clear hw9
        have h3 := H3.out x cy (by omega)
        have h2 := H2.out
        have ho2 := HOl.out x cy
        have e1 : ((k : Int) * k == (k : Int) * k) = true := by simp
        have e2 : ((o p c k : Int) == d) = true := by simp [h2]
        have e3 : decide (d ≤ (o x cy k : Int)) = true := decide_eq_true h3
        obtain ⟨u, hu⟩ : ∃ u, o p c k = u := ⟨_, rfl⟩
        obtain ⟨v, hv⟩ : ∃ v, o x cy k = v := ⟨_, rfl⟩
        rw [hu] at h2 e2 ho1 ⊢
        rw [hv] at h3 e3 ho2 ⊢
        have hkk := sq_le (z := (k : Int)) (by omega)
        clear hu hv h2 h3 HDi H1 H2 H3 HFB HOl hpk hp
        go_wp2_with fail
        go_ret
        exact ⟨rfl, HB9.out⟩
  · have HH := Lib.hid hl
    clear hl C0 C1
    go_enter Try.func4, Try.ntmps4
    go_wp2_with (go_at_call 13; refine (r8Long_yes _ _ _ _ _ _ _ l0 l1 HH.out).mono ?_; rintro e w0 ⟨rfl, rfl⟩)
    go_ret
    exact ⟨rfl, Below.refl _ _⟩
end Go.Proofs.Ytgpcacbjmjpdnaa
