/- The spectrum in the specification, and the law FnExactSpectrumOf. -/
import Derived.Test.YtgpcacbjmjpdnaaSpec4
import Derived.Test.YtgpcacbjmjpdnaaLawL
import Derived.Test.YtgpcacbjmjpdnaaLawNo
import Derived.Test.YtgpcacbjmjpdnaaDeg
namespace Go.Proofs.Ytgpcacbjmjpdnaa
open Go.RowKit Go.PlainAid
open Wt (row spe)
set_option maxHeartbeats 800000

set_option maxRecDepth 8000 in
theorem l04Spectrum_any (n : Nat) (s : ByteArray) (w : World) (h : TabP n s) :
    Calls Try.prog 69 #[.string s] w fun e w' => ∃ v, e = .returned v ∧ w'.ownsRow w.heap.size 2 1 v s.size ((row (Wh.tr (Wt.sv (tb s)) n) s.size).map (Value.int .i64)) ∧ Below w.heap.size w w' := by
  obtain ⟨i0, hi, hz0, hz1, hz2⟩ := info_parts Try.info2
  obtain ⟨p1, p2⟩ := pow6 h.2.1
  rw [← h.1] at p1 p2
  have HT := Lib.hid h
  have hE : row (Wh.tr (Wt.sv (tb s)) n) s.size = row (fun a => spe n (tb s) a s.size) s.size := Wt.row_congr fun a ha => by
    rw [h.1] at ha ⊢
    rw [Wh.tr_top _ ha]
    rfl
  rw [hE]
  clear h hE
  go_enter Try.func69, Try.ntmps69
  go_wp2
  go_loopw [3, 4, 5, 6] (fun v0 uv _ _ wr => ∃ (u : Nat) (v : Value), v = v0 ∧ u ≤ s.size ∧ uv = .int .i64 u ∧ wr.ownsRow w.heap.size 2 1 v u ((row (fun a => spe n (tb s) a s.size) u).map (Value.int .i64)) ∧ Below w.heap.size w wr) (fun _ uv _ _ _ => s.size - (intOf uv).toNat)
  case atStart => exact ⟨0, _, rfl, Nat.zero_le _, rfl, ownsRow_empty w _ _, (Below.refl _ _).alloc (Nat.le_refl _) _⟩
  case round =>
    obtain ⟨u, v, rfl, hu, rfl, hown, hbel⟩ := hrel
    by_cases hlt : u < s.size
    · obtain ⟨wo, hwo⟩ : ∃ x, wr = x := ⟨_, rfl⟩
      rw [hwo] at hown hbel ⊢
      clear hwo
      have hun : u < 2 ^ n := by rw [← HT.out.1]; exact hlt
      have hn6 := HT.out.2.1
      have HL := Lib.hid (Wt.row_succ (fun a => spe n (tb s) a s.size) u)
      have HOo := Lib.hid (And.intro hown hbel)
      have HY : Hid (∀ k, ((tb s k).toNat = Pop.pcF 64 (u &&& k) % 2 → spe n (tb s) u (k + 1) = spe n (tb s) u k + 1) ∧ (¬ (tb s k).toNat = Pop.pcF 64 (u &&& k) % 2 → spe n (tb s) u (k + 1) = spe n (tb s) u k - 1)) := fun k => ⟨Wt.spe_yes hun (by omega), Wt.spe_no hun (by omega)⟩
      clear hown hbel hun hn6
      go_wp2
      go_loopw [5, 6] (fun x kv wi => ∃ k m : Nat, k ≤ s.size ∧ kv = .int .i64 k ∧ x = .int .i64 (spe n (tb s) u k) ∧ wi = wo.drewN m) (fun _ kv _ => s.size - (intOf kv).toNat)
      case atStart => exact ⟨0, 0, Nat.zero_le _, rfl, rfl, rfl⟩
      case round =>
        obtain ⟨k, m, hk, rfl, rfl, hwi⟩ := hrel
        have HW := Lib.hid hwi
        clear hwi
        have hsp := Wt.spe_le n (tb s) u k
        by_cases hkt : k < s.size
        · have ha := i64_andT u k (by omega) (by omega)
          have hv := HT.out.val hkt
          rw [← get_bt s k hkt] at hv
          have HYk := HY.out k
          have HP : Hid (∀ W : World, Calls Try.prog 71 #[.int .i64 (u &&& k : Nat)] W fun e w' => e = .returned (.int .i64 (Pop.pcF 64 (u &&& k) % 2 : Nat)) ∧ W = w') := fun W => l02Parity_any _ W (by have := Nat.and_le_left (n := u) (m := k); omega)
          obtain ⟨q, hq⟩ : ∃ q, u &&& k = q := ⟨_, rfl⟩
          rw [hq] at ha HP HYk
          have hc1 : Pop.pcF 64 q % 2 ≤ 1 := by omega
          obtain ⟨c, hc⟩ : ∃ c, Pop.pcF 64 q % 2 = c := ⟨_, rfl⟩
          obtain ⟨g, hg⟩ : ∃ g, tb s k = g := ⟨_, rfl⟩
          rw [hc] at HP HYk hc1
          rw [hg] at hv HYk
          have hg1 : g.toNat ≤ 1 := Bool.toNat_le _
          obtain ⟨S, hS⟩ : ∃ S, spe n (tb s) u k = S := ⟨_, rfl⟩
          rw [hS] at hsp HYk ⊢
          have hvv : IntKind.u8.wrap ((s[k].toNat : Int) - 48) = (g.toNat : Int) := by rw [hv]; exact by cases g <;> rfl
          by_cases hcg : g.toNat = c
          · have hb : ((g.toNat : Int) == (c : Int)) = true := by simp [hcg]
            have HS := Lib.hid (HYk.1 hcg)
            clear hq hc hg hS HYk hcg
            go_wp2
            go_quiet ((go_at_call 71; exact quietG (HP.out _)))
            go_wp2
            go_roundw
            case rel => exact ⟨k + 1, m + nq, by omega, by go_num, by rw [HS.out], by rw [HW.out, drewN_twoG]⟩
            case measure => simp [intOf]; omega
          · have hb : ((g.toNat : Int) == (c : Int)) = false := by rw [beq_eq_false_iff_ne]; omega
            have HS := Lib.hid (HYk.2 hcg)
            clear hq hc hg hS HYk hcg
            go_wp2
            go_quiet ((go_at_call 71; exact quietG (HP.out _)))
            go_wp2
            go_roundw
            case rel => exact ⟨k + 1, m + nq, by omega, by go_num, by rw [HS.out], by rw [HW.out, drewN_twoG]⟩
            case measure => simp [intOf]; omega
        · have hkN : k = s.size := by omega
          have hown : wr.ownsRow w.heap.size 2 1 v u ((row (fun a => spe n (tb s) a s.size) u).map (Value.int .i64)) := by rw [HW.out]; exact HOo.out.1
          have hbel : Below w.heap.size w wr := by rw [HW.out]; exact below_drewN HOo.out.2 m
          have HL2 : Hid (row (fun a => spe n (tb s) a s.size) (u + 1) = row (fun a => spe n (tb s) a s.size) u ++ [spe n (tb s) u k]) := by rw [hkN]; exact HL.out
          obtain ⟨S, hS⟩ : ∃ S, spe n (tb s) u k = S := ⟨_, rfl⟩
          rw [hS] at hsp HL2 ⊢
          clear hS HOo HL HW hkN
          go_wp2_with (at_builtin; refine wpList_append_own _ rfl _ _ 33 rfl w.heap.size 2 i0 (.int .i64 0) 1 8 Try.underlying33 hi hz0 hz1 hz2 rfl (by decide) _ _ _ rfl (hown.alloc _) ⟨wr.heap.size, 0, none⟩ 1 1 [.int .i64 S] rfl rfl (cell_one_new _ _ _) (by intro u hu; simp at hu; subst hu; rfl) (by unfold maxLen; omega) (by omega) (by have := hbel.size; simp; omega) ?_; intro v1 w1 hown1 hgrow _)
          have hb1 : Below w.heap.size w w1 := (hbel.alloc hbel.size _).grown hgrow (by have := hbel.size; simp; omega) (own_block hown)
          have HO : Hid (w1.ownsRow w.heap.size 2 1 v1 (u + 1) ((row (fun a => spe n (tb s) a s.size) (u + 1)).map (Value.int .i64))) := by
            unfold Hid
            rw [HL2.out]
            simpa using hown1
          clear hown1 hgrow hown hbel
          go_wp2
          go_roundw
          case rel => exact ⟨u + 1, _, rfl, by omega, by go_num, HO.out, hb1⟩
          case measure => simp [intOf]; omega
    · obtain rfl : u = s.size := by omega
      go_wp2
      go_ret
      exact ⟨_, rfl, hown, hbel⟩
theorem row_len (f : Nat → Int) {N : Nat} (h : N ≤ 64) : (row f N).length ≤ 400 := by rw [Wt.row_length]; omega
theorem spectrumOf_any (n : Nat) (s : ByteArray) (h : TabP n s) : GivesList 21 #[.string s] (row (Wh.tr (Wt.sv (tb s)) n) s.size) true := fun w => by
  have HF : Hid (∀ W : World, Calls Try.prog 46 #[.string s] W fun e w' => e = .returned (.tuple #[.agg #[.int .i64 n, .int .u64 (val s s.size)], .bool true]) ∧ Below W.heap.size W w') := fun W => funOf_yes n s W h
  have HP : Hid (∀ W : World, Calls Try.prog 54 #[.agg #[.int .i64 n, .int .u64 (val s s.size)]] W fun e w' => ∃ G, e = .returned (.slice (some ⟨G, 0, none⟩) s.size s.size) ∧ w'.ownsRow W.heap.size 2 1 (.slice (some ⟨G, 0, none⟩) s.size s.size) s.size ((row (Wh.tr (Wt.sv (tb s)) n) s.size).map (Value.int .i64)) ∧ Below W.heap.size W w') := fun W => by
    have := spectrum_any n (tb s) W h.2.1
    rw [← h.1] at this
    exact this
  have HL := Lib.hid (Wt.row_length (Wh.tr (Wt.sv (tb s)) n) s.size)
  obtain ⟨l, hl⟩ : ∃ l, row (Wh.tr (Wt.sv (tb s)) n) s.size = l := ⟨_, rfl⟩
  obtain ⟨U, hU⟩ : ∃ U, val s s.size = U := ⟨_, rfl⟩
  obtain ⟨N, hN⟩ : ∃ N, s.size = N := ⟨_, rfl⟩
  rw [hl] at HP HL ⊢
  rw [hU] at HF HP
  rw [hN] at HP HL
  clear hU hl h hN
  go_enter Try.func21, Try.ntmps21
  go_wp2_with (first | (go_at_call 46; refine (HF.out _).mono ?_; rintro e w1 ⟨rfl, hb1⟩) | (go_at_call 54; refine (HP.out _).mono ?_; rintro e w2 ⟨G, rfl, hown, hb2⟩; have B1 := hb1.alloc hb1.size (.cells #[.int .i64 n, .int .u64 U] 57); have B2 := B1.trans (hb2.mono B1.size); have HO := Lib.hid (own_base hown B1.size); have HB := Lib.hid B2; clear hown hb1 hb2 B1 B2))
  go_ret2
  refine ⟨_, rfl, ?_, HB.out⟩
  have h2 := HO.out
  rw [← HL.out] at h2 ⊢
  exact SL.of_own h2
theorem specSpectrumOf_any (n : Nat) (s : ByteArray) (h : TabP n s) : GivesList 39 #[.string s] (row (Wh.tr (Wt.sv (tb s)) n) s.size) true := fun w => by
  have HF : Hid (∀ W : World, Calls Try.prog 63 #[.string s] W fun e w' => e = .returned (.bool true) ∧ W = w') := fun W => l04Table_yes n s W h
  have HN : Hid (∀ W : World, Calls Try.prog 69 #[.string s] W fun e w' => ∃ v, e = .returned v ∧ w'.ownsRow W.heap.size 2 1 v s.size ((row (Wh.tr (Wt.sv (tb s)) n) s.size).map (Value.int .i64)) ∧ Below W.heap.size W w') := fun W => l04Spectrum_any n s W h
  have HL := Lib.hid (Wt.row_length (Wh.tr (Wt.sv (tb s)) n) s.size)
  obtain ⟨l, hl⟩ : ∃ l, row (Wh.tr (Wt.sv (tb s)) n) s.size = l := ⟨_, rfl⟩
  obtain ⟨N, hN⟩ : ∃ N, s.size = N := ⟨_, rfl⟩
  rw [hl] at HN HL ⊢
  rw [hN] at HN HL
  clear hl h hN
  go_enter Try.func39, Try.ntmps39
  go_wp2_with (first | (go_at_call 63; refine (HF.out _).mono ?_; rintro e w1 ⟨rfl, rfl⟩) | (go_at_call 69; refine (HN.out _).mono ?_; rintro e w2 ⟨v, rfl, hown, hb2⟩; have HO := Lib.hid hown; have HB := Lib.hid hb2; clear hown hb2))
  go_ret2
  refine ⟨_, rfl, ?_, HB.out⟩
  have h2 := HO.out
  rw [← HL.out] at h2
  exact SL.of_own h2
/-- no list -/
theorem gives_no {f : FuncId} {s : ByteArray} (h : ∀ w : World, Calls Try.prog f #[.string s] w fun e w' => e = .returned (.tuple #[.slice none 0 0, .bool false]) ∧ Below w.heap.size w w') : GivesList f #[.string s] [] false := fun w =>
  (h w).mono fun _ _ ⟨he, hb⟩ => ⟨_, he, .inl ⟨rfl, rfl⟩, hb⟩
theorem gives_noS {f : FuncId} {s : ByteArray} (h : ∀ w : World, Calls Try.prog f #[.string s] w fun e w' => e = .returned (.tuple #[.slice none 0 0, .bool false]) ∧ w = w') : GivesList f #[.string s] [] false := fun w =>
  (h w).mono fun _ _ ⟨he, hb⟩ => ⟨_, he, .inl ⟨rfl, rfl⟩, by rw [← hb]; exact Below.refl _ _⟩
theorem lawSpectrumOf (s : ByteArray) (w : World) (hm : s.size ≤ maxLen) :
    Calls Try.prog 12 #[.string s] w fun e w' => e = .returned (.bool true) ∧ Below w.heap.size w w' := by
  apply lawSpectrumOf_all s w hm
  by_cases h : ∃ n, TabP n s
  · obtain ⟨n, h⟩ := h
    exact ⟨_, true, row_len _ (by have := pow6 h.2.1; rw [h.1]; omega), specSpectrumOf_any n s h, spectrumOf_any n s h⟩
  · exact ⟨[], false, by simp, gives_noS fun w => specSpectrumOf_no s w hm h, gives_no fun w => implSpectrumOf_no s w hm h⟩
end Go.Proofs.Ytgpcacbjmjpdnaa
