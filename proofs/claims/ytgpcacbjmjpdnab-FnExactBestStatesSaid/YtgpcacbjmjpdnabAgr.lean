/- What bits say of all states: impl.agreementsOfStates. -/
import Derived.Test.YtgpcacbjmjpdnabSpecI
import Derived.Test.YtgpcacbjmjpdnabBMath
import Derived.Test.YtgpcacbjmjpdnabRegLaws
import Derived.Test.YtgpcacbjmjpdnabTab
import Derived.Deep.RegionHeld3
namespace Go.Proofs.Ytgpcacbjmjpdnab
open Go.RowKit Go.PlainAid
open Wt (row)
set_option maxHeartbeats 1000000

theorem Try.info3 : (Try.prog.info? 3).map (fun i => (i.zero, i.size, i.bytes)) = some (some (.int .i64 0), 1, 8) := by kernel_rfl
theorem made_row (N : Nat) : (madeCells (Value.int .i64 0).cells (N * 1)).toList = (row (fun _ => 0) N).map (Value.int .i64) := by
  rw [pad_made]
  unfold pad row
  simp [List.map_const']
/-- a struct of two, and what lay before -/
def S3 (B : Nat) (w V : World) (b : Nat) (x y : Value) : Prop := V.cell? ⟨b, 0, none⟩ = some x ∧ V.cell? ⟨b, 1, none⟩ = some y ∧ Below B w V
theorem S3.call {B b : Nat} {w V V1 : World} {x y : Value} (h : S3 B w V b x y) (hB : B ≤ V.heap.size) (hb : Below V.heap.size V V1) : S3 B w V1 b x y :=
  ⟨(hb.cell (p := ⟨b, 0, none⟩) (World.block_lt_of_cell? V _ h.1)).trans h.1, (hb.cell (p := ⟨b, 1, none⟩) (World.block_lt_of_cell? V _ h.2.1)).trans h.2.1, h.2.2.trans (hb.mono hB)⟩
theorem S3.alloc {B b : Nat} {w V : World} {x y : Value} (h : S3 B w V b x y) (hB : B ≤ V.heap.size) (o : Obj) : S3 B w (V.alloc o) b x y := h.call hB ((Below.refl _ V).alloc (Nat.le_refl _) o)
theorem S3.size {w V : World} {b : Nat} {x y : Value} (h : S3 w.heap.size w V b x y) : w.heap.size ≤ V.heap.size := h.2.2.size
set_option maxRecDepth 8000 in
theorem agr_any (W T : Nat) (t : ByteArray) (w : World) (hW : W ≤ 10) (hT : T < 2 ^ W) (ht : BitsP t) :
    Calls Try.prog 70 #[.agg #[.int .i64 W, .int .i64 T], .string t] w fun e w' => ∃ G, e = .returned (.slice (some ⟨G, 0, none⟩) (2 ^ W) (2 ^ W)) ∧ w'.ownsRow w.heap.size 3 1 (.slice (some ⟨G, 0, none⟩) (2 ^ W) (2 ^ W)) (2 ^ W) ((row (fun S => 2 * (agI W T t S t.size : Int) - t.size) (2 ^ W)).map (Value.int .i64)) ∧ Below w.heap.size w w' := by
  have h4 := ht.len
  have hp := pow10 hW
  have HP : Hid (∀ V : World, Calls Try.prog 84 #[.agg #[.int .i64 W, .int .i64 T]] V fun e w' => e = .returned (.int .i64 (polyN2 W T)) ∧ Below V.heap.size V w') := fun V => poly_any W T V (by omega) hT
  obtain ⟨N, hN⟩ : ∃ N, 2 ^ W = N := ⟨_, rfl⟩
  obtain ⟨p, hpp⟩ : ∃ p, polyN2 W T = p := ⟨_, rfl⟩
  have hpw : IntKind.i64.wrap (2 ^ W) = (N : Int) := by
    have e : (2 : Int) ^ W = ((2 ^ W : Nat) : Int) := by push_cast; rfl
    rw [e, hN]
    rw [hN] at hp
    exact IntWalk.i64_in _ (by omega)
  obtain ⟨i0, hi, hz0, hz1, hz2⟩ := info_parts Try.info3
  have hpN := hp
  rw [hN] at hp ⊢
  have h0p : 0 < p := by rw [← hpp]; exact poly_pos W T
  have hp32 : p < 4294967296 := by rw [← hpp]; exact poly_lt (by omega) hT
  have HPwl : Hid (∀ i, Pl.pw p i < N) := fun i => by
    have := Pl.rem_lt h0p (2 ^ i)
    rw [← hpp, polyN2_len hT, Nat.add_sub_cancel, hN] at this
    rw [← hpp]
    exact this
  have HPx : Hid (∀ V : World, Calls Try.prog 85 #[.int .i64 p, .int .i64 0] V fun e w' => e = .returned (.int .i64 (Pl.pw p 0)) ∧ V = w') := fun V => powerOfX_any p 0 V (by omega) h0p hp32
  have HTx : Hid (∀ (i : Nat) (V : World), Calls Try.prog 86 #[.int .i64 p, .int .i64 (Pl.pw p i)] V fun e w' => e = .returned (.int .i64 (Pl.pw p (i + 1))) ∧ V = w') := fun i V => by
    rw [Pl.pw_succ]
    exact timesX_any p _ V h0p hp32 (Pl.rem_lt h0p _)
  have HBt : Hid (∀ k, (hk : k < t.size) → (((t[k]'hk).toNat : Nat) : Int) = bt t k ∧ (bt t k = 48 ∨ bt t k = 49)) := fun k hk => by
    have h1 := ht.2 k hk
    rw [get_bt t k hk] at h1 ⊢
    exact ⟨rfl, by omega⟩
  have HCl : Hid (∀ (k : Nat) (x : Nat), -(k : Int) ≤ cnt p t k x ∧ cnt p t k x ≤ k) := cnt_le p t
  have HTr : Hid (∀ (B G : Nat) (V : World), V.ownsRow B 3 1 (.slice (some ⟨G, 0, none⟩) N N) N ((row (cnt p t t.size) N).map (Value.int .i64)) →
      Calls Try.prog 87 #[.slice (some ⟨G, 0, none⟩) N N] V fun e w' => e = .returned (.tuple #[]) ∧ w'.ownsRow B 3 1 (.slice (some ⟨G, 0, none⟩) N N) N ((row (fun S => 2 * (agI W T t S t.size : Int) - t.size) N).map (Value.int .i64)) ∧ Below B V w') := fun B G V h => by
    have h1 := transI_any W N B G N (cnt p t t.size) 400 V hW hN (by omega) (by omega) (fun x => by have := cnt_le p t t.size x; omega) h
    have h2 : row (Wh.tr (cnt p t t.size) W) N = row (fun S => 2 * (agI W T t S t.size : Int) - t.size) N := Wt.row_congr fun S hS => by
      rw [← hN] at hS
      rw [Wh.tr_top _ hS, ← hpp, wh_cnt t (by omega) hT hS (fun i => by
        have := Pl.rem_lt (poly_pos W T) (2 ^ i)
        rw [polyN2_len hT, Nat.add_sub_cancel] at this
        exact this)]
    rwa [h2] at h1
  obtain ⟨mc, hmc⟩ : ∃ mc, madeCells (Value.int .i64 0).cells (N * i0.size) = mc := ⟨_, rfl⟩
  have HMk : ∀ V : World, (Instr.makeSlice 92 (.int .i64 (N : Int)) (.int .i64 (N : Int))).run Try.prog V = .ok (.slice (some ⟨V.heap.size, 0, none⟩) N N) (V.alloc (.cells mc 3)) := fun V => by
    have := run_make (P := Try.prog) (w := V) 92 3 i0 (.int .i64 0) Try.underlying92 hi hz0 .i64 .i64 N N (by omega) (Int.le_refl _) (by rw [hz2]; omega) (by omega)
    simp only [Int.toNat_natCast] at this
    rwa [hmc] at this
  have hmcs : mc.size = N * 1 := by rw [← hmc, hz1]; exact size_madeCells _ _
  have hmcl : mc.toList = (row (cnt p t 0) N).map (Value.int .i64) := by rw [← hmc, hz1]; exact made_row N
  rw [hpp] at HP
  have A0 := P2.new w (.int .i64 W) (.int .i64 T) 48
  have B0 := (Below.refl w.heap.size w).alloc (Nat.le_refl _) (.cells #[.int .i64 W, .int .i64 T] 48)
  obtain ⟨wr, hwr⟩ : ∃ V, w.alloc (.cells #[.int .i64 W, .int .i64 T] 48) = V := ⟨_, rfl⟩
  have HWR := Lib.hid hwr
  rw [hwr] at A0 B0
  obtain ⟨⟨c0, c1⟩, _⟩ := A0
  have HS0 : Hid (S3 w.heap.size w wr.drew w.heap.size (.int .i64 W) (.int .i64 T)) := ⟨c0, c1, B0.drew⟩
  clear hwr
  go_enter Try.func70, Try.ntmps70
  go_wp2
  rw [HWR.out]
  go_region_held3 (fun w' => w'.cell? ⟨w.heap.size, 0, none⟩ = some (.int .i64 W) ∧ w'.cell? ⟨w.heap.size, 1, none⟩ = some (.int .i64 T) ∧ Below w.heap.size w w')
    (first
      | (exact HS0.out)
      | (go_split_ands; have hs : S3 w.heap.size w _ w.heap.size _ _ := ⟨by assumption, by assumption, by assumption⟩; first | exact hs.call hs.size hb2 | exact hs.alloc hs.size _))
    ((go_at_call 84; with_reducible refine (HP.out _).mono ?_; rintro e w2 ⟨rfl, hb2⟩))
  · have hs3 : S3 w.heap.size w w2 w.heap.size (.int .i64 W) (.int .i64 T) := by go_split_ands; exact ⟨by assumption, by assumption, by assumption⟩
    have hown : w2.ownsRow w.heap.size 3 1 (.slice (some ⟨wr.heap.size, 0, none⟩) N N) N ((row (cnt p t 0) N).map (Value.int .i64)) := by
      rw [← hmcl]
      exact own_far (World.ownsRow_lit wr.drew mc N (by have := B0.size; exact this) (by unfold maxLen; omega) hmcs) hb2
    have hbel := hs3.2.2
    obtain ⟨G, hG⟩ : ∃ G, wr.heap.size = G := ⟨_, rfl⟩
    rw [hG] at hown ⊢
    clear hs3 hG
    clear c0 c1 HWR HS0 hmcl hmcs hmc HMk HP hpw hb2
    go_wp2_with (go_at_call 85; refine (HPx.out _).mono ?_; rintro e w3 ⟨rfl, rfl⟩)
    go_loopw [7, 8, 19] (fun pv _ kv V => ∃ k : Nat, k ≤ t.size ∧ kv = .int .i64 k ∧ pv = .int .i64 (Pl.pw p k) ∧ V.ownsRow w.heap.size 3 1 (.slice (some ⟨G, 0, none⟩) N N) N ((row (cnt p t k) N).map (Value.int .i64)) ∧ Below w.heap.size w V) (fun _ _ kv _ => t.size - (intOf kv).toNat)
    case atStart => exact ⟨0, Nat.zero_le _, rfl, rfl, hown, hbel⟩
    case round =>
      obtain ⟨k, hk, rfl, rfl, hown2, hbel2⟩ := hrel
      clear hown hbel
      have hGb := roww_lt hown2
      by_cases hlt : k < t.size
      · obtain ⟨hbv, hb48⟩ := HBt.out k hlt
        have hpl := HPwl.out k
        have hcl := HCl.out k (Pl.pw p k)
        have HTk := Lib.hid (HTx.out k)
        have HCs : Hid (∀ x, cnt p t (k + 1) x = if x = Pl.pw p k then (if bt t k = 49 then cnt p t k x - 1 else cnt p t k x + 1) else cnt p t k x) := fun _ => rfl
        obtain ⟨c0, f0⟩ := roww_at hown2 hpl
        obtain ⟨q, hq⟩ : ∃ q, Pl.pw p k = q := ⟨_, rfl⟩
        rw [hq] at hpl hcl HTk HCs c0 f0 ⊢
        have HXX := Lib.hid (And.intro hown2 hbel2)
        obtain ⟨u, hu⟩ : ∃ u, cnt p t k q = u := ⟨_, rfl⟩
        rw [hu] at hcl c0
        clear hq hown2 hbel2
        by_cases h49 : bt t k = 49
        · have hc : (((t[k]'hlt).toNat : Int) == 48) = false := by rw [hbv, h49]; rfl
          have HR : Hid (row (fun x => if x = q then u - 1 else cnt p t k x) N = row (cnt p t (k + 1)) N) := Wt.row_congr fun x _ => by
            rw [HCs.out x]
            by_cases e : x = q
            · rw [if_pos e, if_pos e, if_pos h49, e, hu]
            · rw [if_neg e, if_neg e]
          clear hbv hb48 h49 hu HCs
          go_wp2_with (go_at_call 86; refine (HTk.out _).mono ?_; rintro e w4 ⟨rfl, rfl⟩)
          go_roundw
          case rel => exact ⟨k + 1, by omega, by go_num, rfl, by rw [← HR.out]; exact roww_set HXX.out.1 _, HXX.out.2.setCell (p := ⟨G, q, none⟩) hGb.1 _⟩
          case measure => simp [intOf]; omega
        · have hc : (((t[k]'hlt).toNat : Int) == 48) = true := by rw [hbv]; simp; omega
          have HR : Hid (row (fun x => if x = q then u + 1 else cnt p t k x) N = row (cnt p t (k + 1)) N) := Wt.row_congr fun x _ => by
            rw [HCs.out x]
            by_cases e : x = q
            · rw [if_pos e, if_pos e, if_neg h49, e, hu]
            · rw [if_neg e, if_neg e]
          clear hbv hb48 h49 hu HCs
          go_wp2_with (go_at_call 86; refine (HTk.out _).mono ?_; rintro e w4 ⟨rfl, rfl⟩)
          go_roundw
          case rel => exact ⟨k + 1, by omega, by go_num, rfl, by rw [← HR.out]; exact roww_set HXX.out.1 _, HXX.out.2.setCell (p := ⟨G, q, none⟩) hGb.1 _⟩
          case measure => simp [intOf]; omega
      · obtain rfl : k = t.size := by omega
        have HXX := Lib.hid (And.intro hown2 hbel2)
        clear hown2 hbel2
        go_wp2_with (go_at_call 87; refine (HTr.out _ _ _ HXX.out.1).mono ?_; rintro e w6 ⟨rfl, hown6, hb6⟩)
        go_ret
        exact ⟨G, rfl, hown6, HXX.out.2.trans hb6⟩
  · have hs3 : S3 w.heap.size w (w2.alloc (.cells mc 3)) w.heap.size (.int .i64 W) (.int .i64 T) := by go_split_ands; exact ⟨by assumption, by assumption, by assumption⟩
    have hz2 : w.heap.size ≤ w2.heap.size := Nat.le_trans B0.size hb2.size
    have hown : (w2.alloc (.cells mc 3)).ownsRow w.heap.size 3 1 (.slice (some ⟨w2.heap.size, 0, none⟩) N N) N ((row (cnt p t 0) N).map (Value.int .i64)) := by
      rw [← hmcl]
      exact World.ownsRow_lit w2 mc N hz2 (by unfold maxLen; omega) hmcs
    have hbel := hs3.2.2
    obtain ⟨G, hG⟩ : ∃ G, w2.heap.size = G := ⟨_, rfl⟩
    rw [hG] at hown ⊢
    obtain ⟨Wd, hWd⟩ : ∃ V, w2.alloc (.cells mc 3) = V := ⟨_, rfl⟩
    rw [hWd] at hown hbel ⊢
    clear hs3 hG hWd hz2
    clear c0 c1 HWR HS0 hmcl hmcs hmc HMk HP hpw hb2
    go_wp2_with (go_at_call 85; refine (HPx.out _).mono ?_; rintro e w3 ⟨rfl, rfl⟩)
    go_loopw [7, 8, 19] (fun pv _ kv V => ∃ k : Nat, k ≤ t.size ∧ kv = .int .i64 k ∧ pv = .int .i64 (Pl.pw p k) ∧ V.ownsRow w.heap.size 3 1 (.slice (some ⟨G, 0, none⟩) N N) N ((row (cnt p t k) N).map (Value.int .i64)) ∧ Below w.heap.size w V) (fun _ _ kv _ => t.size - (intOf kv).toNat)
    case atStart => exact ⟨0, Nat.zero_le _, rfl, rfl, hown, hbel⟩
    case round =>
      obtain ⟨k, hk, rfl, rfl, hown2, hbel2⟩ := hrel
      clear hown hbel
      have hGb := roww_lt hown2
      by_cases hlt : k < t.size
      · obtain ⟨hbv, hb48⟩ := HBt.out k hlt
        have hpl := HPwl.out k
        have hcl := HCl.out k (Pl.pw p k)
        have HTk := Lib.hid (HTx.out k)
        have HCs : Hid (∀ x, cnt p t (k + 1) x = if x = Pl.pw p k then (if bt t k = 49 then cnt p t k x - 1 else cnt p t k x + 1) else cnt p t k x) := fun _ => rfl
        obtain ⟨c0, f0⟩ := roww_at hown2 hpl
        obtain ⟨q, hq⟩ : ∃ q, Pl.pw p k = q := ⟨_, rfl⟩
        rw [hq] at hpl hcl HTk HCs c0 f0 ⊢
        have HXX := Lib.hid (And.intro hown2 hbel2)
        obtain ⟨u, hu⟩ : ∃ u, cnt p t k q = u := ⟨_, rfl⟩
        rw [hu] at hcl c0
        clear hq hown2 hbel2
        by_cases h49 : bt t k = 49
        · have hc : (((t[k]'hlt).toNat : Int) == 48) = false := by rw [hbv, h49]; rfl
          have HR : Hid (row (fun x => if x = q then u - 1 else cnt p t k x) N = row (cnt p t (k + 1)) N) := Wt.row_congr fun x _ => by
            rw [HCs.out x]
            by_cases e : x = q
            · rw [if_pos e, if_pos e, if_pos h49, e, hu]
            · rw [if_neg e, if_neg e]
          clear hbv hb48 h49 hu HCs
          go_wp2_with (go_at_call 86; refine (HTk.out _).mono ?_; rintro e w4 ⟨rfl, rfl⟩)
          go_roundw
          case rel => exact ⟨k + 1, by omega, by go_num, rfl, by rw [← HR.out]; exact roww_set HXX.out.1 _, HXX.out.2.setCell (p := ⟨G, q, none⟩) hGb.1 _⟩
          case measure => simp [intOf]; omega
        · have hc : (((t[k]'hlt).toNat : Int) == 48) = true := by rw [hbv]; simp; omega
          have HR : Hid (row (fun x => if x = q then u + 1 else cnt p t k x) N = row (cnt p t (k + 1)) N) := Wt.row_congr fun x _ => by
            rw [HCs.out x]
            by_cases e : x = q
            · rw [if_pos e, if_pos e, if_neg h49, e, hu]
            · rw [if_neg e, if_neg e]
          clear hbv hb48 h49 hu HCs
          go_wp2_with (go_at_call 86; refine (HTk.out _).mono ?_; rintro e w4 ⟨rfl, rfl⟩)
          go_roundw
          case rel => exact ⟨k + 1, by omega, by go_num, rfl, by rw [← HR.out]; exact roww_set HXX.out.1 _, HXX.out.2.setCell (p := ⟨G, q, none⟩) hGb.1 _⟩
          case measure => simp [intOf]; omega
      · obtain rfl : k = t.size := by omega
        have HXX := Lib.hid (And.intro hown2 hbel2)
        clear hown2 hbel2
        go_wp2_with (go_at_call 87; refine (HTr.out _ _ _ HXX.out.1).mono ?_; rintro e w6 ⟨rfl, hown6, hb6⟩)
        go_ret
        exact ⟨G, rfl, hown6, HXX.out.2.trans hb6⟩
end Go.Proofs.Ytgpcacbjmjpdnab
