/- The states that agree best: slices.Max, BestStates in the code. -/
import Derived.Test.YtgpcacbjmjpdnabAgr
import Derived.Test.YtgpcacbjmjpdnabReg
import Derived.Test.YtgpcacbjmjpdnabSlice64
import Derived.Test.YtgpcacbjmjpdnabSpectrum
namespace Go.Proofs.Ytgpcacbjmjpdnab
open Go.RowKit Go.PlainAid
open Wt (row)
set_option maxHeartbeats 1000000

theorem max_step (f : Nat → Nat) (k : Nat) (L : Int) : max (2 * mxf f k - L) (2 * (f k : Int) - L) = 2 * mxf f (k + 1) - L := by
  have e : mxf f (k + 1) = if mxf f k < (f k : Int) then (f k : Int) else mxf f k := rfl
  rw [e]
  split <;> omega
theorem mxf_one (f : Nat → Nat) : mxf f 1 = f 0 := by
  have e : mxf f 1 = if (-1 : Int) < (f 0 : Int) then (f 0 : Int) else -1 := rfl
  rw [e, if_pos (by omega)]
theorem slMax_any (N G cap L : Nat) (f : Nat → Nat) (w : World) (h0 : 0 < N) (hN : N ≤ 1024) (hf : ∀ S, f S ≤ L) (_hL : L ≤ 400) (B : Nat) (h : w.ownsRow B 3 1 (.slice (some ⟨G, 0, none⟩) N cap) N ((row (fun S => 2 * (f S : Int) - L) N).map (Value.int .i64))) :
    Calls Try.prog 71 #[.slice (some ⟨G, 0, none⟩) N cap] w fun e w' => e = .returned (.int .i64 (2 * mxf f N - L)) ∧ w = w' := by
  have hcap := roww_cap h
  have HC : Hid (∀ i, i < N → w.cell? ⟨G, i, none⟩ = some (.int .i64 (2 * (f i : Int) - L))) := fun i hi => (roww_at h hi).1
  have c0 := HC.out 0 h0
  have hf0 := hf 0
  have HF := Lib.hid hf
  have HM : Hid (∀ k, -1 ≤ mxf f k ∧ mxf f k ≤ L) := mxf_le f L hf
  have HX : Hid (∀ k, max (2 * mxf f k - (L : Int)) (2 * (f k : Int) - L) = 2 * mxf f (k + 1) - L) := fun k => max_step f k L
  have HO : Hid (2 * (f 0 : Int) - L = 2 * mxf f 1 - L) := by unfold Hid; rw [mxf_one]
  clear h hf
  go_enter Try.func71, Try.ntmps71
  go_wp2
  go_loop [3, 4] (fun mv kv => ∃ k : Nat, 1 ≤ k ∧ k ≤ N ∧ kv = .int .i64 k ∧ mv = .int .i64 (2 * mxf f k - L)) (fun _ kv => N - (intOf kv).toNat)
  case atStart => exact ⟨1, by omega, by omega, rfl, by rw [← HO.out]⟩
  case round =>
    obtain ⟨k, hk1, hk, rfl, rfl⟩ := hrel
    by_cases hlt : k < N
    · have ck := HC.out k hlt
      have hx := HX.out k
      have HX2 := Lib.hid hx
      clear hx c0
      go_wp2
      go_round
      case rel => exact ⟨k + 1, by omega, by omega, by go_num, by rw [← HX2.out]⟩
      case measure => simp [intOf]; omega
    · obtain rfl : k = N := by omega
      go_wp2
      go_ret
      exact ⟨rfl, rfl⟩
/-- a call that gives a list and a number -/
def GivesBest (f : FuncId) (args : Array Value) (xs : List Int) (m : Int) (ok : Bool) : Prop := ∀ w : World, Calls Try.prog f args w fun e w' => ∃ v, e = .returned (.tuple #[v, .int .i64 m, .bool ok]) ∧ SL w.heap.size w'.heap.size w' v xs ∧ Below w.heap.size w w'
/-- what the states agree -/
def agF (W T : Nat) (t : ByteArray) (S : Nat) : Nat := agI W T t S t.size
set_option maxRecDepth 8000 in
theorem bestStates_yes (W T : Nat) (t : ByteArray) (hW : W ≤ 10) (hT : T < 2 ^ W) (ht : BitsP t) (hR : RegP W T) :
    GivesBest 40 #[.agg #[.int .i64 W, .int .i64 T], .string t] (best (agF W T t) (2 ^ W)) (mxf (agF W T t) (2 ^ W)) true := fun w => by
  have h4 := ht.len
  have hp := pow10 hW
  have HV : Hid (∀ V : World, Calls Try.prog 69 #[.agg #[.int .i64 W, .int .i64 T]] V fun e w' => e = .returned (.bool true) ∧ Below V.heap.size V w') := fun V => valid_b W T true V (decide_eq_true hR)
  have HB : Hid (∀ V : World, Calls Try.prog 65 #[.string t] V fun e w' => e = .returned (.bool true) ∧ Below V.heap.size V w') := fun V => isBits_yes t V ht
  have HA : Hid (∀ V : World, Calls Try.prog 70 #[.agg #[.int .i64 W, .int .i64 T], .string t] V fun e w' => ∃ G, e = .returned (.slice (some ⟨G, 0, none⟩) (2 ^ W) (2 ^ W)) ∧ w'.ownsRow V.heap.size 3 1 (.slice (some ⟨G, 0, none⟩) (2 ^ W) (2 ^ W)) (2 ^ W) ((row (fun S => 2 * (agF W T t S : Int) - t.size) (2 ^ W)).map (Value.int .i64)) ∧ Below V.heap.size V w') := fun V => agr_any W T t V hW hT ht
  have hfl : ∀ S, agF W T t S ≤ t.size := fun S => agI_le W T t S t.size
  obtain ⟨f, hf⟩ : ∃ f, agF W T t = f := ⟨_, rfl⟩
  obtain ⟨N, hN⟩ : ∃ N, 2 ^ W = N := ⟨_, rfl⟩
  rw [hf] at HA hfl ⊢
  rw [hN] at HA hp ⊢
  have HFl := Lib.hid hfl
  have HM : Hid (0 ≤ mxf f N ∧ mxf f N ≤ t.size) := ⟨by have := mxf_ge f N 0 (by omega); omega, (mxf_le f t.size hfl N).2⟩
  have HMx : Hid (∀ (B G : Nat) (V : World), V.ownsRow B 3 1 (.slice (some ⟨G, 0, none⟩) N N) N ((row (fun S => 2 * (f S : Int) - t.size) N).map (Value.int .i64)) → Calls Try.prog 71 #[.slice (some ⟨G, 0, none⟩) N N] V fun e w' => e = .returned (.int .i64 (2 * mxf f N - t.size)) ∧ V = w') := fun B G V h => slMax_any N G N t.size f V (by omega) (by omega) hfl h4 B h
  have HBy : Hid (∀ k, (f k : Int) = mxf f N → Wt.prodL (fun S => decide ((f S : Int) = mxf f N)) (k + 1) = Wt.prodL (fun S => decide ((f S : Int) = mxf f N)) k ++ [(k : Int)]) := fun k e => Wt.prodL_yes (decide_eq_true e)
  have HBn : Hid (∀ k, ¬ (f k : Int) = mxf f N → Wt.prodL (fun S => decide ((f S : Int) = mxf f N)) (k + 1) = Wt.prodL (fun S => decide ((f S : Int) = mxf f N)) k) := fun k e => Wt.prodL_no (decide_eq_false e)
  have HBl : Hid (∀ k, (Wt.prodL (fun S => decide ((f S : Int) = mxf f N)) k).length ≤ k) := Wt.prodL_length _
  have HBe : Hid (best f N = Wt.prodL (fun S => decide ((f S : Int) = mxf f N)) N) := rfl
  obtain ⟨g, hg⟩ : ∃ g, (fun S => decide ((f S : Int) = mxf f N)) = g := ⟨_, rfl⟩
  rw [hg] at HBy HBn HBl HBe
  rw [HBe.out]
  obtain ⟨m, hm⟩ : ∃ m, mxf f N = m := ⟨_, rfl⟩
  rw [hm] at HM HMx HBy HBn ⊢
  have hm1 := HM.out
  obtain ⟨i0, hi, hz0, hz1, hz2⟩ := info_parts Try.info2
  have A0 := P2.new w (.int .i64 W) (.int .i64 T) 48
  have B0 := (Below.refl w.heap.size w).alloc (Nat.le_refl _) (.cells #[.int .i64 W, .int .i64 T] 48)
  have HAB := Lib.hid (And.intro A0 B0)
  clear ht hR hT hf hN hfl hg hm A0 B0 HBe
  go_enter Try.func40, Try.ntmps40
  go_wp2_with fail
  refine (HV.out _).mono ?_
  rintro e w1 ⟨rfl, hb1⟩
  have A1 := HAB.out.1.far hb1
  have B1 := HAB.out.2.trans (hb1.mono HAB.out.2.size)
  have A1' := A1
  obtain ⟨⟨c0, c1⟩, _⟩ := A1'
  have HAB1 := Lib.hid (And.intro A1 B1)
  clear A1 B1 hb1
  go_wp2_with fail
  refine (HB.out _).mono ?_
  rintro e w2 ⟨rfl, hb2⟩
  have A2 := HAB1.out.1.far hb2
  have B2 := HAB1.out.2.trans (hb2.mono HAB1.out.2.size)
  clear c0 c1
  have A2' := A2
  obtain ⟨⟨c0, c1⟩, _⟩ := A2'
  have HAB2 := Lib.hid (And.intro A2 B2)
  clear A2 B2 hb2
  go_wp2_with fail
  refine (HA.out _).mono ?_
  rintro e w3 ⟨G, rfl, hown, hb3⟩
  have B3 := HAB2.out.2.trans (hb3.mono HAB2.out.2.size)
  have hG := (roww_lt hown).2
  have HC : Hid (∀ i, i < N → w3.cell? ⟨G, i, none⟩ = some (.int .i64 (2 * (f i : Int) - t.size))) := fun i hi => (roww_at hown hi).1
  have HB3 := Lib.hid B3
  have HOw := Lib.hid hown
  clear hown hb3 B3 c0 c1
  go_wp2_with fail
  refine (HMx.out _ _ _ HOw.out).mono ?_
  rintro e w4 ⟨rfl, rfl⟩
  have O1 := ownsRow_empty w3 2 1
  have B4 := (Below.refl w3.heap.size w3).alloc (Nat.le_refl _) (.cells #[] 2)
  clear HOw
  go_wp2
  go_loopw [9, 10, 11, 33] (fun v0 _ _ kv wr => ∃ (k : Nat) (v : Value), v = v0 ∧ k ≤ N ∧ kv = .int .i64 k ∧ wr.ownsRow w3.heap.size 2 1 v (Wt.prodL g k).length ((Wt.prodL g k).map (Value.int .i64)) ∧ Below w3.heap.size w3 wr) (fun _ _ _ kv _ => N - (intOf kv).toNat)
  case atStart => exact ⟨0, _, rfl, Nat.zero_le _, rfl, O1, B4⟩
  case round =>
    obtain ⟨k, v, rfl, hk, rfl, hown, B⟩ := hrel
    clear O1 B4
    by_cases hlt : k < N
    · have c0 : wr.cell? ⟨G, k, none⟩ = some (.int .i64 (2 * (f k : Int) - t.size)) := (B.cell (p := ⟨G, k, none⟩) hG).trans (HC.out k hlt)
      have hle := HBl.out k
      have hfk := HFl.out k
      have HY := Lib.hid (HBy.out k)
      have HNn := Lib.hid (HBn.out k)
      obtain ⟨u, hu⟩ : ∃ u, f k = u := ⟨_, rfl⟩
      rw [hu] at c0 hfk HY HNn
      clear hu
      by_cases hum : (u : Int) = m
      · have hc : ((2 * (u : Int) - (t.size : Int)) == 2 * m - (t.size : Int)) = true := by rw [hum]; simp
        have HL := Lib.hid (HY.out hum)
        clear HY HNn hum
        go_wp2_with (at_builtin; refine wpList_append_own _ rfl _ _ 27 rfl w3.heap.size 2 i0 (.int .i64 0) 1 8 Try.underlying27 hi hz0 hz1 hz2 rfl (by decide) _ _ _ rfl (hown.alloc _) ⟨wr.heap.size, 0, none⟩ 1 1 [.int .i64 k] rfl rfl (cell_one_new _ _ _) (by intro u hu; simp at hu; subst hu; rfl) (by unfold maxLen; omega) (by omega) (by have := B.size; simp; omega) ?_; intro v1 w4 hown4 hgrow _)
        have B5 : Below w3.heap.size w3 w4 := (B.alloc B.size _).grown hgrow (by have := B.size; simp; omega) (own_block hown)
        have HO : Hid (w4.ownsRow w3.heap.size 2 1 v1 (Wt.prodL g (k + 1)).length ((Wt.prodL g (k + 1)).map (Value.int .i64))) := by
          unfold Hid
          rw [HL.out]
          simpa using hown4
        clear hown4 hgrow hown B
        go_wp2
        go_roundw
        case rel => exact ⟨k + 1, _, rfl, by omega, by go_num, HO.out, B5⟩
        case measure => simp [intOf]; omega
      · have hc : ((2 * (u : Int) - (t.size : Int)) == 2 * m - (t.size : Int)) = false := by rw [beq_eq_false_iff_ne]; omega
        have HL := Lib.hid (HNn.out hum)
        clear HY HNn hum
        go_wp2
        go_roundw
        case rel => exact ⟨k + 1, _, rfl, by omega, by go_num, by rw [HL.out]; exact hown, B⟩
        case measure => simp [intOf]; omega
    · obtain rfl : k = N := by omega
      have HX := Lib.hid (And.intro hown B)
      have hq : ((t.size : Int) + (2 * m - (t.size : Int))) / 2 = m := by omega
      clear hown B
      go_wp2
      go_ret3
      refine ⟨v, congrArg (fun z => Ending.returned (.tuple #[v, .int .i64 z, .bool true])) hq, SL.of_own (own_base HX.out.1 HB3.out.size), HB3.out.trans (HX.out.2.mono HB3.out.size)⟩
theorem bestStates_no (x y : Int) (t : ByteArray) (hm : t.size ≤ maxLen) (h : ¬ (RegP x y ∧ x ≤ 10 ∧ BitsP t)) : GivesBest 40 #[.agg #[.int .i64 x, .int .i64 y], .string t] [] 0 false := fun w => by
  have A0 := P2.new w (.int .i64 x) (.int .i64 y) 48
  have B0 := (Below.refl w.heap.size w).alloc (Nat.le_refl _) (.cells #[.int .i64 x, .int .i64 y] 48)
  have HAB := Lib.hid (And.intro A0 B0)
  clear A0 B0
  by_cases hR : RegP x y
  · have HV : Hid (∀ V : World, Calls Try.prog 69 #[.agg #[.int .i64 x, .int .i64 y]] V fun e w' => e = .returned (.bool true) ∧ Below V.heap.size V w') := fun V => valid_b x y true V (decide_eq_true hR)
    have hx0 := hR.1
    by_cases hx : x ≤ 10
    · have HB : Hid (∀ V : World, Calls Try.prog 65 #[.string t] V fun e w' => e = .returned (.bool false) ∧ Below V.heap.size V w') := fun V => isBits_no t V hm (fun q => h ⟨hR, hx, q⟩)
      have hd : decide (10 < x) = false := decide_eq_false (by omega)
      clear h hR
      go_enter Try.func40, Try.ntmps40
      go_wp2_with fail
      refine (HV.out _).mono ?_
      rintro e w1 ⟨rfl, hb1⟩
      have A1 := HAB.out.1.far hb1
      have B1 := HAB.out.2.trans (hb1.mono HAB.out.2.size)
      have HB1 := Lib.hid B1
      obtain ⟨⟨c0, c1⟩, _⟩ := A1
      clear B1 hb1
      go_wp2_with fail
      refine (HB.out _).mono ?_
      rintro e w2 ⟨rfl, hb2⟩
      have HB2 := Lib.hid (HB1.out.trans (hb2.mono HB1.out.size))
      clear hb2
      go_wp2
      go_ret3
      exact ⟨_, rfl, .inl ⟨rfl, rfl⟩, HB2.out⟩
    · have hd : decide (10 < x) = true := decide_eq_true (by omega)
      clear h hR
      go_enter Try.func40, Try.ntmps40
      go_wp2_with fail
      refine (HV.out _).mono ?_
      rintro e w1 ⟨rfl, hb1⟩
      have A1 := HAB.out.1.far hb1
      have B1 := HAB.out.2.trans (hb1.mono HAB.out.2.size)
      have HB1 := Lib.hid B1
      obtain ⟨⟨c0, c1⟩, _⟩ := A1
      clear B1 hb1
      go_wp2
      go_ret3
      exact ⟨_, rfl, .inl ⟨rfl, rfl⟩, HB1.out⟩
  · have HV : Hid (∀ V : World, Calls Try.prog 69 #[.agg #[.int .i64 x, .int .i64 y]] V fun e w' => e = .returned (.bool false) ∧ Below V.heap.size V w') := fun V => valid_b x y false V (decide_eq_false hR)
    clear h hR
    go_enter Try.func40, Try.ntmps40
    go_wp2_with fail
    refine (HV.out _).mono ?_
    rintro e w1 ⟨rfl, hb1⟩
    have B1 := HAB.out.2.trans (hb1.mono HAB.out.2.size)
    clear hb1
    go_wp2
    go_ret3
    exact ⟨_, rfl, .inl ⟨rfl, rfl⟩, B1⟩
end Go.Proofs.Ytgpcacbjmjpdnab
