/- The spectrum in the specification, and the law FnExactSpectrumOf. -/
import Derived.Test.YtgpcacbjmjpdnabSpec4
import Derived.Test.YtgpcacbjmjpdnabLawL
import Derived.Test.YtgpcacbjmjpdnabLawNo
import Derived.Test.YtgpcacbjmjpdnabDeg
namespace Go.Proofs.Ytgpcacbjmjpdnab
open Go.RowKit Go.PlainAid
open Wt (row spe)
set_option maxHeartbeats 800000

set_option maxRecDepth 8000 in
theorem l04Spectrum_any (n : Nat) (s : ByteArray) (w : World) (h : TabP n s) :
    Calls Try.prog 42 #[.string s] w fun e w' => ∃ v, e = .returned v ∧ w'.ownsRow w.heap.size 2 1 v s.size ((row (Wh.tr (Wt.sv (tb s)) n) s.size).map (Value.int .i64)) ∧ Below w.heap.size w w' := by
  obtain ⟨i0, hi, hz0, hz1, hz2⟩ := info_parts Try.info2
  obtain ⟨p1, p2⟩ := pow6 h.2.1
  rw [← h.1] at p1 p2
  have HT := Lib.hid h
  have hE : row (Wh.tr (Wt.sv (tb s)) n) s.size = row (fun a => spe n (tb s) a s.size) s.size := Wt.row_congr fun a ha => by
    rw [h.1] at ha ⊢
    rw [Wh.tr_top _ ha]
    rfl
  rw [hE]
  clear h hE
  go_enter Try.func42, Try.ntmps42
  go_wp2
  go_loopw [3, 4, 5, 6] (fun v0 uv _ _ wr => ∃ (u : Nat) (v : Value), v = v0 ∧ u ≤ s.size ∧ uv = .int .i64 u ∧ wr.ownsRow w.heap.size 2 1 v u ((row (fun a => spe n (tb s) a s.size) u).map (Value.int .i64)) ∧ Below w.heap.size w wr) (fun _ uv _ _ _ => s.size - (intOf uv).toNat)
  case atStart => exact ⟨0, _, rfl, Nat.zero_le _, rfl, ownsRow_empty w _ _, (Below.refl _ _).alloc (Nat.le_refl _) _⟩
  case round =>
    obtain ⟨u, v, rfl, hu, rfl, hown, hbel⟩ := hrel
    by_cases hlt : u < s.size
    · obtain ⟨wo, hwo⟩ : ∃ x, wr = x := ⟨_, rfl⟩
      rw [hwo] at hown hbel ⊢
      clear hwo
      have hun : u < 2 ^ n := by rw [← HT.out.1]; exact hlt
      have hn6 := HT.out.2.1
      have HL := Lib.hid (Wt.row_succ (fun a => spe n (tb s) a s.size) u)
      have HOo := Lib.hid (And.intro hown hbel)
      have HY : Hid (∀ k, ((tb s k).toNat = Pop.pcF 64 (u &&& k) % 2 → spe n (tb s) u (k + 1) = spe n (tb s) u k + 1) ∧ (¬ (tb s k).toNat = Pop.pcF 64 (u &&& k) % 2 → spe n (tb s) u (k + 1) = spe n (tb s) u k - 1)) := fun k => ⟨Wt.spe_yes hun (by omega), Wt.spe_no hun (by omega)⟩
      clear hown hbel hun hn6
      go_wp2
      go_loopw [5, 6] (fun x kv wi => ∃ k m : Nat, k ≤ s.size ∧ kv = .int .i64 k ∧ x = .int .i64 (spe n (tb s) u k) ∧ wi = wo.drewN m) (fun _ kv _ => s.size - (intOf kv).toNat)
      case atStart => exact ⟨0, 0, Nat.zero_le _, rfl, rfl, rfl⟩
      case round =>
        obtain ⟨k, m, hk, rfl, rfl, hwi⟩ := hrel
        have HW := Lib.hid hwi
        clear hwi
        have hsp := Wt.spe_le n (tb s) u k
        by_cases hkt : k < s.size
        · have ha := i64_andT u k (by omega) (by omega)
          have hv := HT.out.val hkt
          rw [← get_bt s k hkt] at hv
          have HYk := HY.out k
          have HP : Hid (∀ W : World, Calls Try.prog 72 #[.int .i64 (u &&& k : Nat)] W fun e w' => e = .returned (.int .i64 (Pop.pcF 64 (u &&& k) % 2 : Nat)) ∧ W = w') := fun W => l02Parity_any _ W (by have := Nat.and_le_left (n := u) (m := k); omega)
          obtain ⟨q, hq⟩ : ∃ q, u &&& k = q := ⟨_, rfl⟩
          rw [hq] at ha HP HYk
          have hc1 : Pop.pcF 64 q % 2 ≤ 1 := by omega
          obtain ⟨c, hc⟩ : ∃ c, Pop.pcF 64 q % 2 = c := ⟨_, rfl⟩
          obtain ⟨g, hg⟩ : ∃ g, tb s k = g := ⟨_, rfl⟩
          rw [hc] at HP HYk hc1
          rw [hg] at hv HYk
          have hg1 : g.toNat ≤ 1 := Bool.toNat_le _
          obtain ⟨S, hS⟩ : ∃ S, spe n (tb s) u k = S := ⟨_, rfl⟩
          rw [hS] at hsp HYk ⊢
          have hvv : IntKind.u8.wrap ((s[k].toNat : Int) - 48) = (g.toNat : Int) := by rw [hv]; exact by cases g <;> rfl
          by_cases hcg : g.toNat = c
          · have hb : ((g.toNat : Int) == (c : Int)) = true := by simp [hcg]
            have HS := Lib.hid (HYk.1 hcg)
            clear hq hc hg hS HYk hcg
            go_wp2
            go_quiet ((go_at_call 72; exact quietG (HP.out _)))
            go_wp2
            go_roundw
            case rel => exact ⟨k + 1, m + nq, by omega, by go_num, by rw [HS.out], by rw [HW.out, drewN_twoG]⟩
            case measure => simp [intOf]; omega
          · have hb : ((g.toNat : Int) == (c : Int)) = false := by rw [beq_eq_false_iff_ne]; omega
            have HS := Lib.hid (HYk.2 hcg)
            clear hq hc hg hS HYk hcg
            go_wp2
            go_quiet ((go_at_call 72; exact quietG (HP.out _)))
            go_wp2
            go_roundw
            case rel => exact ⟨k + 1, m + nq, by omega, by go_num, by rw [HS.out], by rw [HW.out, drewN_twoG]⟩
            case measure => simp [intOf]; omega
        · have hkN : k = s.size := by omega
          have hown : wr.ownsRow w.heap.size 2 1 v u ((row (fun a => spe n (tb s) a s.size) u).map (Value.int .i64)) := by rw [HW.out]; exact HOo.out.1
          have hbel : Below w.heap.size w wr := by rw [HW.out]; exact below_drewN HOo.out.2 m
          have HL2 : Hid (row (fun a => spe n (tb s) a s.size) (u + 1) = row (fun a => spe n (tb s) a s.size) u ++ [spe n (tb s) u k]) := by rw [hkN]; exact HL.out
          obtain ⟨S, hS⟩ : ∃ S, spe n (tb s) u k = S := ⟨_, rfl⟩
          rw [hS] at hsp HL2 ⊢
          clear hS HOo HL HW hkN
          go_wp2_with (at_builtin; refine wpList_append_own _ rfl _ _ 27 rfl w.heap.size 2 i0 (.int .i64 0) 1 8 Try.underlying27 hi hz0 hz1 hz2 rfl (by decide) _ _ _ rfl (hown.alloc _) ⟨wr.heap.size, 0, none⟩ 1 1 [.int .i64 S] rfl rfl (cell_one_new _ _ _) (by intro u hu; simp at hu; subst hu; rfl) (by unfold maxLen; omega) (by omega) (by have := hbel.size; simp; omega) ?_; intro v1 w1 hown1 hgrow _)
          have hb1 : Below w.heap.size w w1 := (hbel.alloc hbel.size _).grown hgrow (by have := hbel.size; simp; omega) (own_block hown)
          have HO : Hid (w1.ownsRow w.heap.size 2 1 v1 (u + 1) ((row (fun a => spe n (tb s) a s.size) (u + 1)).map (Value.int .i64))) := by
            unfold Hid
            rw [HL2.out]
            simpa using hown1
          clear hown1 hgrow hown hbel
          go_wp2
          go_roundw
          case rel => exact ⟨u + 1, _, rfl, by omega, by go_num, HO.out, hb1⟩
          case measure => simp [intOf]; omega
    · obtain rfl : u = s.size := by omega
      go_wp2
      go_ret
      exact ⟨_, rfl, hown, hbel⟩
theorem row_len (f : Nat → Int) {N : Nat} (h : N ≤ 64) : (row f N).length ≤ 400 := by rw [Wt.row_length]; omega
/-- no list -/
theorem gives_no {f : FuncId} {s : ByteArray} (h : ∀ w : World, Calls Try.prog f #[.string s] w fun e w' => e = .returned (.tuple #[.slice none 0 0, .bool false]) ∧ Below w.heap.size w w') : GivesList f #[.string s] [] false := fun w =>
  (h w).mono fun _ _ ⟨he, hb⟩ => ⟨_, he, .inl ⟨rfl, rfl⟩, hb⟩
theorem gives_noS {f : FuncId} {s : ByteArray} (h : ∀ w : World, Calls Try.prog f #[.string s] w fun e w' => e = .returned (.tuple #[.slice none 0 0, .bool false]) ∧ w = w') : GivesList f #[.string s] [] false := fun w =>
  (h w).mono fun _ _ ⟨he, hb⟩ => ⟨_, he, .inl ⟨rfl, rfl⟩, by rw [← hb]; exact Below.refl _ _⟩
end Go.Proofs.Ytgpcacbjmjpdnab
