/- A coin with a chance: impl.CoinFrom, spec.CoinFrom. -/
import Derived.Test.YtamedggnkbhgeabRdr
import Derived.Test.YtamedggnkbhgeabRollMath
import Derived.Test.YtamedggnkbhgeabFrac
import Derived.Test.YtamedggnkbhgeabMix
namespace Go.Proofs.Ytamedggnkbhgeab
open Go.RowKit Go.PlainAid
set_option maxHeartbeats 1000000

def CoinInv (s : ByteArray) (den : Int) (R : Int × Int × Bool) (B b : Nat) (num r : Int) (w wr : World) : Prop :=
  Below B w wr ∧ B ≤ b ∧ D2 wr B (.int .i64 num) (.int .i64 den) ∧ B ≠ b ∧ ((∃ k f : Nat, k + f = s.size ∧ Rd wr b s k false ∧ 0 ≤ r ∧ r ≤ den ∧ coin s den f r k = R) ∨ ∃ k, Rd wr b s k true ∧ R = (0, 0, false))

theorem coin_yes (num den : Int) (s : ByteArray) (w : World) (h : VF num den) (h0 : 0 ≤ num) (h1 : num ≤ den) (hs : BitsP s) (x u : Int) (ok : Bool) (hR : coin s den s.size num 0 = (x, u, ok)) :
    Calls Try.prog 20 #[.agg #[.int .i64 num, .int .i64 den], .string s] w fun e w' => e = .returned (.tuple #[.int .i64 x, .int .i64 u, .bool ok]) ∧ Below w.heap.size w w' := by
  have HV := Lib.hid h
  have HS := Lib.hid hs
  have HR := Lib.hid hR
  have hd1 := h.1
  have hd2 := h.2.1
  have h4 := hs.len
  have hsm : s.size ≤ maxLen := by unfold maxLen; omega
  have HM := Lib.hid hsm
  clear h hs hR hsm
  go_enter Try.func20, Try.ntmps20
  have A0 := D2.new w (.int .i64 num) (.int .i64 den) 23
  have B := (Below.refl w.heap.size w).alloc (Nat.le_refl _) (.cells #[.int .i64 num, .int .i64 den] 23)
  go_wp2_with fail
  refine (valid_yes num den _ HV.out).mono ?_
  rintro e w1 ⟨rfl, hb⟩
  replace A0 := A0.far hb
  replace B := B.trans (hb.mono B.size)
  clear hb
  obtain ⟨⟨c0, c1⟩, _, _⟩ := id A0
  go_wp2_with fail
  refine (btw64_yes num 0 den w1 h0 h1).mono ?_
  rintro e w2 ⟨rfl, rfl⟩
  clear c0 c1
  go_wp2_with fail
  obtain ⟨q0, q1⟩ := (A0.drew).gr (rw := none) (by simp)
  refine wp_region_mix (none) [0, 2, 3] [1, 4, 5] (by kernel_rfl) (by kernel_rfl) ?_
  simp only [pickOps, List.filterMap_cons, List.filterMap_nil, List.getElem?_toArray, List.getElem?_cons_succ, List.getElem?_cons_zero]
  repeat (refine wpQuietG_step (fun K hK => ?_); go_simp; first | (refine hK _ ?_; clear hK K) | (apply Exists.intro; refine ⟨fun _ => ?_, hK _ ?_⟩; (fail); clear hK K))
  refine wpQuietG_nil ?_
  clear q0 q1
  intro W hW1 hW2
  go_wp2_with fail
  refine (readerOf_yes s _ HS.out).mono ?_
  rintro e w3 ⟨b, rfl, hbb, hrd, hb3⟩
  go_wp2
  have g3 := gr_step hW1 hb3
  have z1 : w1.heap.size ≤ W.heap.size := hW1.size
  refine ⟨g3, ?_⟩
  intro W4 hW3 hW4
  go_wp2
  try refine ⟨hW3, ?_⟩
  intro W5 hW5 hW6
  go_wp2
  try refine ⟨hW5, ?_⟩
  intro W6 hW7 hW8
  have z0 := A0.lt
  have RD := Lib.hid ((hrd.far hW4).far (hW6.trans (hW8.mono hW6.size)))
  replace hW7 := gr_undrew hW7
  replace A0 := A0.grow hW7 (by simp)
  replace B := B.grown hW7 B.size (by simp)
  have hz := A0.lt
  have hne : w.heap.size < b := by omega
  clear hW1 hW2 hW3 hW4 hW5 hW6 hW7 hW8 hrd hb3 g3
  go_wp2_with fail
  go_loopw [8, 9, 10] (fun rv _ _ wr => ∃ r : Int, rv = .int .i64 r ∧ CoinInv s den (x, u, ok) w.heap.size b num r w wr) (fun _ _ _ wr => rdLeft b s.size wr)
  case atStart => exact ⟨num, rfl, B, by omega, A0, by omega, .inl ⟨0, s.size, by omega, RD.out, h0, h1, HR.out⟩⟩
  case round =>
    obtain ⟨r, rfl, hB, hbb, A1, hne2, hK⟩ := hrel
    obtain ⟨⟨d0, d1⟩, _, _⟩ := id A1
    have HB := Lib.hid hB
    have HA := Lib.hid A1
    clear RD A0 B A1 hB
    rcases hK with ⟨k, f, hkf, hrd, r0, r1, HC⟩ | ⟨k, hrd, hRf⟩
    · obtain ⟨⟨c0, c1, c2⟩, _, _⟩ := id hrd
      have HRD := Lib.hid hrd
      clear hrd
      have hbit : ∀ hk : k < s.size, bt s k - 48 = 0 ∨ bt s k - 48 = 1 := fun hk => by have := bit_in HS.out.all hk; omega
      by_cases hk : k < s.size
      · obtain ⟨f, rfl⟩ : ∃ f', f = f' + 1 := ⟨f - 1, by omega⟩
        replace hbit := hbit hk
        by_cases hd : r * 2 < den
        · rcases hbit with hv | hv
          · have hv2 : bt s k = 48 := by omega
            have HN : Hid (∀ W : World, Rd W b s k false → Calls Try.prog 37 #[.pointer (some ⟨b, 0, none⟩)] W fun e w' => e = .returned (.int .i64 0) ∧ Rd w' b s (k + 1) false ∧ W.grownBy w' (some b)) := fun W h => by have := rdNext_yes b s k W h HS.out hk; rwa [hv] at this
            have HC2 : Hid (coin s den f (r * 2) (k + 1) = (x, u, ok)) := by have := HC; rw [coin, if_pos hd, if_pos hv2] at this; exact this
            clear hv hv2 HC
            go_wp2_with fail
            refine (HN.out _ HRD.out).mono ?_
            rintro e w7 ⟨rfl, hrd7, hg7⟩
            have B7 := HB.out.grown hg7 HB.out.size (by simp; omega)
            have A7 := HA.out.grow hg7 (by simp; omega)
            have K := Lib.hid (And.intro hrd7 (And.intro B7 A7))
            clear hrd7 hg7 B7 A7
            go_wp2
            go_roundw
            case rel => exact ⟨_, rfl, K.out.2.1, hbb, K.out.2.2, hne2, .inl ⟨k + 1, f, by omega, K.out.1, by omega, by omega, HC2.out⟩⟩
            case measure => rw [left_ok K.out.1, left_ok HRD.out]; omega
          · have hv2 : bt s k = 49 := by omega
            have HN : Hid (∀ W : World, Rd W b s k false → Calls Try.prog 37 #[.pointer (some ⟨b, 0, none⟩)] W fun e w' => e = .returned (.int .i64 1) ∧ Rd w' b s (k + 1) false ∧ W.grownBy w' (some b)) := fun W h => by have := rdNext_yes b s k W h HS.out hk; rwa [hv] at this
            obtain ⟨rfl, rfl, rfl⟩ : x = 0 ∧ u = ((k + 1 : Nat) : Int) ∧ ok = true := by have := HC; rw [coin, if_pos hd, if_neg (by omega)] at this; exact ⟨(congrArg Prod.fst this).symm, (congrArg (fun t => t.2.1) this).symm, (congrArg (fun t => t.2.2) this).symm⟩
            clear hv hv2 HC
            go_wp2_with fail
            refine (HN.out _ HRD.out).mono ?_
            rintro e w7 ⟨rfl, hrd7, hg7⟩
            have B7 := HB.out.grown hg7 HB.out.size (by simp; omega)
            have A7 := HA.out.grow hg7 (by simp; omega)
            have K := Lib.hid (And.intro hrd7 (And.intro B7 A7))
            clear hrd7 hg7 B7 A7
            go_wp2_with fail
            refine (drawn_yes b s (k + 1) _ _ K.out.1).mono ?_
            rintro e w8 ⟨rfl, hb8⟩
            go_wp2
            go_returns
            exact ⟨rfl, K.out.2.1.trans (hb8.mono K.out.2.1.size)⟩
        · rcases hbit with hv | hv
          · have hv2 : bt s k = 48 := by omega
            have HN : Hid (∀ W : World, Rd W b s k false → Calls Try.prog 37 #[.pointer (some ⟨b, 0, none⟩)] W fun e w' => e = .returned (.int .i64 0) ∧ Rd w' b s (k + 1) false ∧ W.grownBy w' (some b)) := fun W h => by have := rdNext_yes b s k W h HS.out hk; rwa [hv] at this
            obtain ⟨rfl, rfl, rfl⟩ : x = 1 ∧ u = ((k + 1 : Nat) : Int) ∧ ok = true := by have := HC; rw [coin, if_neg hd, if_neg (by omega)] at this; exact ⟨(congrArg Prod.fst this).symm, (congrArg (fun t => t.2.1) this).symm, (congrArg (fun t => t.2.2) this).symm⟩
            clear hv hv2 HC
            go_wp2_with fail
            go_quiet (fail)
            go_wp2_with fail
            refine (HN.out _ (HRD.out.drewN _)).mono ?_
            rintro e w7 ⟨rfl, hrd7, hg7⟩
            replace hg7 : wr.grownBy w7 (some b) := ⟨hg7.os, hg7.tape, hg7.output, hg7.size, hg7.block⟩
            have B7 := HB.out.grown hg7 HB.out.size (by simp; omega)
            have A7 := HA.out.grow hg7 (by simp; omega)
            have K := Lib.hid (And.intro hrd7 (And.intro B7 A7))
            clear hrd7 hg7 B7 A7
            go_wp2_with fail
            refine (drawn_yes b s (k + 1) _ _ K.out.1).mono ?_
            rintro e w8 ⟨rfl, hb8⟩
            go_wp2
            go_returns
            exact ⟨rfl, K.out.2.1.trans (hb8.mono K.out.2.1.size)⟩
          · have hv2 : bt s k = 49 := by omega
            have HN : Hid (∀ W : World, Rd W b s k false → Calls Try.prog 37 #[.pointer (some ⟨b, 0, none⟩)] W fun e w' => e = .returned (.int .i64 1) ∧ Rd w' b s (k + 1) false ∧ W.grownBy w' (some b)) := fun W h => by have := rdNext_yes b s k W h HS.out hk; rwa [hv] at this
            have HC2 : Hid (coin s den f (r * 2 - den) (k + 1) = (x, u, ok)) := by have := HC; rw [coin, if_neg hd, if_pos hv2] at this; exact this
            clear hv hv2 HC
            go_wp2_with fail
            go_quiet (fail)
            go_wp2_with fail
            refine (HN.out _ (HRD.out.drewN _)).mono ?_
            rintro e w7 ⟨rfl, hrd7, hg7⟩
            replace hg7 : wr.grownBy w7 (some b) := ⟨hg7.os, hg7.tape, hg7.output, hg7.size, hg7.block⟩
            have B7 := HB.out.grown hg7 HB.out.size (by simp; omega)
            have A7 := HA.out.grow hg7 (by simp; omega)
            have K := Lib.hid (And.intro hrd7 (And.intro B7 A7))
            clear hrd7 hg7 B7 A7
            go_wp2
            go_roundw
            case rel => exact ⟨_, rfl, K.out.2.1, hbb, K.out.2.2, hne2, .inl ⟨k + 1, f, by omega, K.out.1, by omega, by omega, HC2.out⟩⟩
            case measure => rw [left_ok K.out.1, left_ok HRD.out]; omega
      · clear hbit
        by_cases hd : r * 2 < den
        · obtain rfl : f = 0 := by omega
          obtain rfl : k = s.size := by omega
          obtain ⟨rfl, rfl, rfl⟩ : x = 0 ∧ u = 0 ∧ ok = false := by have := HC; rw [coin] at this; exact ⟨(congrArg Prod.fst this).symm, (congrArg (fun t => t.2.1) this).symm, (congrArg (fun t => t.2.2) this).symm⟩
          have HN : Hid (∀ W : World, Rd W b s s.size false → Calls Try.prog 37 #[.pointer (some ⟨b, 0, none⟩)] W fun e w' => e = .returned (.int .i64 0) ∧ Rd w' b s s.size true ∧ W.grownBy w' (some b)) := fun W h => rdNext_no b s s.size false W h (.inr rfl)
          clear HC
          go_wp2_with fail
          refine (HN.out _ HRD.out).mono ?_
          rintro e w7 ⟨rfl, hrd7, hg7⟩
          have B7 := HB.out.grown hg7 HB.out.size (by simp; omega)
          have A7 := HA.out.grow hg7 (by simp; omega)
          have K := Lib.hid (And.intro hrd7 (And.intro B7 A7))
          clear hrd7 hg7 B7 A7
          go_wp2
          go_roundw
          case rel => exact ⟨_, rfl, K.out.2.1, hbb, K.out.2.2, hne2, .inr ⟨_, K.out.1, rfl⟩⟩
          case measure => rw [left_no K.out.1, left_ok HRD.out]; omega
        · obtain rfl : f = 0 := by omega
          obtain rfl : k = s.size := by omega
          obtain ⟨rfl, rfl, rfl⟩ : x = 0 ∧ u = 0 ∧ ok = false := by have := HC; rw [coin] at this; exact ⟨(congrArg Prod.fst this).symm, (congrArg (fun t => t.2.1) this).symm, (congrArg (fun t => t.2.2) this).symm⟩
          have HN : Hid (∀ W : World, Rd W b s s.size false → Calls Try.prog 37 #[.pointer (some ⟨b, 0, none⟩)] W fun e w' => e = .returned (.int .i64 0) ∧ Rd w' b s s.size true ∧ W.grownBy w' (some b)) := fun W h => rdNext_no b s s.size false W h (.inr rfl)
          clear HC
          go_wp2_with fail
          go_quiet (fail)
          go_wp2_with fail
          refine (HN.out _ (HRD.out.drewN _)).mono ?_
          rintro e w7 ⟨rfl, hrd7, hg7⟩
          replace hg7 : wr.grownBy w7 (some b) := ⟨hg7.os, hg7.tape, hg7.output, hg7.size, hg7.block⟩
          have B7 := HB.out.grown hg7 HB.out.size (by simp; omega)
          have A7 := HA.out.grow hg7 (by simp; omega)
          have K := Lib.hid (And.intro hrd7 (And.intro B7 A7))
          clear hrd7 hg7 B7 A7
          go_wp2_with fail
          refine (drawn_no b s s.size _ _ K.out.1).mono ?_
          rintro e w8 ⟨rfl, hb8⟩
          go_wp2
          go_returns
          exact ⟨rfl, K.out.2.1.trans (hb8.mono K.out.2.1.size)⟩
    · obtain ⟨⟨c0, c1, c2⟩, _, _⟩ := id hrd
      obtain ⟨rfl, rfl, rfl⟩ : x = 0 ∧ u = 0 ∧ ok = false := by simpa using hRf
      go_wp2
      go_returns
      exact ⟨rfl, HB.out⟩

theorem coin_noA (num den : Int) (s : ByteArray) (w : World) (h : ¬ (VF num den ∧ 0 ≤ num ∧ num ≤ den)) :
    Calls Try.prog 20 #[.agg #[.int .i64 num, .int .i64 den], .string s] w fun e w' => e = .returned (.tuple #[.int .i64 0, .int .i64 0, .bool false]) ∧ Below w.heap.size w w' := by
  by_cases hv : VF num den
  · have HV := Lib.hid hv
    have HB : Hid (∀ W : World, Calls Try.prog 32 #[.int .i64 num, .int .i64 0, .int .i64 den] W fun e w' => e = .returned (.bool false) ∧ W = w') := fun W => btw64_no num 0 den W fun x => h ⟨hv, x⟩
    clear h hv
    go_enter Try.func20, Try.ntmps20
    have A0 := D2.new w (.int .i64 num) (.int .i64 den) 23
    have B := (Below.refl w.heap.size w).alloc (Nat.le_refl _) (.cells #[.int .i64 num, .int .i64 den] 23)
    go_wp2_with fail
    refine (valid_yes num den _ HV.out).mono ?_
    rintro e w1 ⟨rfl, hb⟩
    replace A0 := A0.far hb
    replace B := B.trans (hb.mono B.size)
    clear hb
    obtain ⟨⟨c0, c1⟩, _, _⟩ := id A0
    go_wp2_with fail
    refine (HB.out _).mono ?_
    rintro e w2 ⟨rfl, rfl⟩
    go_wp2
    go_returns
    exact ⟨rfl, B⟩
  · have HV := Lib.hid hv
    clear h hv
    go_enter Try.func20, Try.ntmps20
    have A0 := D2.new w (.int .i64 num) (.int .i64 den) 23
    have B := (Below.refl w.heap.size w).alloc (Nat.le_refl _) (.cells #[.int .i64 num, .int .i64 den] 23)
    go_wp2_with fail
    refine (valid_no num den _ HV.out).mono ?_
    rintro e w1 ⟨rfl, hb⟩
    replace B := B.trans (hb.mono B.size)
    clear hb A0
    go_wp2
    go_returns
    exact ⟨rfl, B⟩
theorem coin_noB (num den : Int) (s : ByteArray) (w : World) (h : VF num den) (h0 : 0 ≤ num) (h1 : num ≤ den) (hm : s.size ≤ maxLen) (hs : ¬ BitsP s) :
    Calls Try.prog 20 #[.agg #[.int .i64 num, .int .i64 den], .string s] w fun e w' => e = .returned (.tuple #[.int .i64 0, .int .i64 0, .bool false]) ∧ Below w.heap.size w w' := by
  have HV := Lib.hid h
  have HN : Hid (∀ W : World, Calls Try.prog 36 #[.string s] W (NewRd s true W)) := fun W => readerOf_no s W hm hs
  clear h hs
  go_enter Try.func20, Try.ntmps20
  have A0 := D2.new w (.int .i64 num) (.int .i64 den) 23
  have B := (Below.refl w.heap.size w).alloc (Nat.le_refl _) (.cells #[.int .i64 num, .int .i64 den] 23)
  go_wp2_with fail
  refine (valid_yes num den _ HV.out).mono ?_
  rintro e w1 ⟨rfl, hb⟩
  replace A0 := A0.far hb
  replace B := B.trans (hb.mono B.size)
  clear hb
  obtain ⟨⟨c0, c1⟩, _, _⟩ := id A0
  go_wp2_with fail
  refine (btw64_yes num 0 den w1 h0 h1).mono ?_
  rintro e w2 ⟨rfl, rfl⟩
  clear c0 c1
  go_wp2_with fail
  obtain ⟨q0, q1⟩ := (A0.drew).gr (rw := none) (by simp)
  refine wp_region_mix (none) [0, 2, 3] [1, 4, 5] (by kernel_rfl) (by kernel_rfl) ?_
  simp only [pickOps, List.filterMap_cons, List.filterMap_nil, List.getElem?_toArray, List.getElem?_cons_succ, List.getElem?_cons_zero]
  repeat (refine wpQuietG_step (fun K hK => ?_); go_simp; first | (refine hK _ ?_; clear hK K) | (apply Exists.intro; refine ⟨fun _ => ?_, hK _ ?_⟩; (fail); clear hK K))
  refine wpQuietG_nil ?_
  clear q0 q1
  intro W hW1 hW2
  go_wp2_with fail
  refine (HN.out _).mono ?_
  rintro e w3 ⟨b, rfl, hbb, hrd, hb3⟩
  go_wp2
  have g3 := gr_step hW1 hb3
  refine ⟨g3, ?_⟩
  intro W4 hW3 hW4
  go_wp2
  try refine ⟨hW3, ?_⟩
  intro W5 hW5 hW6
  go_wp2
  try refine ⟨hW5, ?_⟩
  intro W6 hW7 hW8
  have RD := (hrd.far hW4).far (hW6.trans (hW8.mono hW6.size))
  replace hW7 := gr_undrew hW7
  replace A0 := A0.grow hW7 (by simp)
  replace B := B.grown hW7 B.size (by simp)
  obtain ⟨⟨c0, c1, c2⟩, _, _⟩ := id RD
  clear hW1 hW2 hW3 hW4 hW5 hW6 hW7 hW8 hrd hb3 g3
  go_wp2_with fail
  refine wp_loop_rounds 1 ?_
  rw [rounds_succ]
  go_wp2
  go_returns
  exact ⟨rfl, B⟩

theorem chance_yes (num den : Int) (w : World) (h : VF num den) (h0 : 0 ≤ num) (h1 : num ≤ den) :
    Calls Try.prog 45 #[.agg #[.int .i64 num, .int .i64 den]] w fun e w' => e = .returned (.bool true) ∧ Below w.heap.size w w' := by
  have HV := Lib.hid h
  clear h
  go_enter Try.func45, Try.ntmps45
  have A0 := D2.new w (.int .i64 num) (.int .i64 den) 23
  have B := (Below.refl w.heap.size w).alloc (Nat.le_refl _) (.cells #[.int .i64 num, .int .i64 den] 23)
  go_wp2_with fail
  refine (fis_yes num den _ HV.out).mono ?_
  rintro e w1 ⟨rfl, hb⟩
  replace A0 := A0.far hb
  replace B := B.trans (hb.mono B.size)
  clear hb
  obtain ⟨⟨c0, c1⟩, _, _⟩ := id A0
  go_wp2_with fail
  refine (l00In_yes num 0 den w1 h0 h1).mono ?_
  rintro e w2 ⟨rfl, rfl⟩
  go_wp2
  go_ret
  exact ⟨rfl, B⟩
theorem chance_no (num den : Int) (w : World) (h : ¬ (VF num den ∧ 0 ≤ num ∧ num ≤ den)) :
    Calls Try.prog 45 #[.agg #[.int .i64 num, .int .i64 den]] w fun e w' => e = .returned (.bool false) ∧ Below w.heap.size w w' := by
  by_cases hv : VF num den
  · have HV := Lib.hid hv
    have HB : Hid (∀ W : World, Calls Try.prog 39 #[.int .i64 num, .int .i64 0, .int .i64 den] W fun e w' => e = .returned (.bool false) ∧ W = w') := fun W => l00In_no num 0 den W fun x => h ⟨hv, x⟩
    clear h hv
    go_enter Try.func45, Try.ntmps45
    have A0 := D2.new w (.int .i64 num) (.int .i64 den) 23
    have B := (Below.refl w.heap.size w).alloc (Nat.le_refl _) (.cells #[.int .i64 num, .int .i64 den] 23)
    go_wp2_with fail
    refine (fis_yes num den _ HV.out).mono ?_
    rintro e w1 ⟨rfl, hb⟩
    replace A0 := A0.far hb
    replace B := B.trans (hb.mono B.size)
    clear hb
    obtain ⟨⟨c0, c1⟩, _, _⟩ := id A0
    go_wp2_with fail
    refine (HB.out w1).mono ?_
    rintro e w2 ⟨rfl, rfl⟩
    go_wp2
    go_ret
    exact ⟨rfl, B⟩
  · have HV := Lib.hid hv
    clear h hv
    go_enter Try.func45, Try.ntmps45
    have B := (Below.refl w.heap.size w).alloc (Nat.le_refl _) (.cells #[.int .i64 num, .int .i64 den] 23)
    go_wp2_with fail
    refine (fis_no num den _ HV.out).mono ?_
    rintro e w1 ⟨rfl, hb⟩
    replace B := B.trans (hb.mono B.size)
    clear hb
    go_wp2
    go_ret
    exact ⟨rfl, B⟩
theorem specCoin_no (num den : Int) (s : ByteArray) (w : World) (hm : s.size ≤ maxLen) (h : ¬ ((VF num den ∧ 0 ≤ num ∧ num ≤ den) ∧ BitsP s)) :
    Calls Try.prog 18 #[.agg #[.int .i64 num, .int .i64 den], .string s] w fun e w' => e = .returned (.tuple #[.int .i64 0, .int .i64 0, .bool false]) ∧ Below w.heap.size w w' := by
  by_cases hv : VF num den ∧ 0 ≤ num ∧ num ≤ den
  · have HV := Lib.hid hv
    have HB : Hid (∀ W : World, Calls Try.prog 35 #[.string s] W fun e w' => e = .returned (.bool false) ∧ W = w') := fun W => l01Bits_no s W hm fun x => h ⟨hv, x⟩
    clear h hv
    go_enter Try.func18, Try.ntmps18
    have B := (Below.refl w.heap.size w).alloc (Nat.le_refl _) (.cells #[.int .i64 num, .int .i64 den] 23)
    go_wp2_with fail
    refine (chance_yes num den _ HV.out.1 HV.out.2.1 HV.out.2.2).mono ?_
    rintro e w1 ⟨rfl, hb⟩
    replace B := B.trans (hb.mono B.size)
    clear hb
    go_wp2_with fail
    refine (HB.out w1).mono ?_
    rintro e w2 ⟨rfl, rfl⟩
    go_wp2
    go_returns
    exact ⟨rfl, B⟩
  · have HV := Lib.hid hv
    clear h hv
    go_enter Try.func18, Try.ntmps18
    have B := (Below.refl w.heap.size w).alloc (Nat.le_refl _) (.cells #[.int .i64 num, .int .i64 den] 23)
    go_wp2_with fail
    refine (chance_no num den _ HV.out).mono ?_
    rintro e w1 ⟨rfl, hb⟩
    replace B := B.trans (hb.mono B.size)
    clear hb
    go_wp2
    go_returns
    exact ⟨rfl, B⟩
theorem specCoin_yes (num den : Int) (s : ByteArray) (w : World) (h : VF num den) (h0 : 0 ≤ num) (h1 : num ≤ den) (hs : BitsP s) (x u : Int) (ok : Bool) (hR : coin s den s.size num 0 = (x, u, ok)) :
    Calls Try.prog 18 #[.agg #[.int .i64 num, .int .i64 den], .string s] w fun e w' => e = .returned (.tuple #[.int .i64 x, .int .i64 u, .bool ok]) ∧ Below w.heap.size w w' := by
  have HV := Lib.hid h
  have HS := Lib.hid hs
  have HR := Lib.hid hR
  have hd1 := h.1
  have hd2 := h.2.1
  have h4 := hs.len
  clear h hs hR
  go_enter Try.func18, Try.ntmps18
  have A0 := D2.new w (.int .i64 num) (.int .i64 den) 23
  have B := (Below.refl w.heap.size w).alloc (Nat.le_refl _) (.cells #[.int .i64 num, .int .i64 den] 23)
  go_wp2_with fail
  refine (chance_yes num den _ HV.out h0 h1).mono ?_
  rintro e w1 ⟨rfl, hb⟩
  replace A0 := A0.far hb
  replace B := B.trans (hb.mono B.size)
  clear hb
  go_wp2_with fail
  refine (l01Bits_yes s w1 HS.out).mono ?_
  rintro e w2 ⟨rfl, rfl⟩
  obtain ⟨⟨c0, c1⟩, _, _⟩ := id A0
  go_wp2_with fail
  go_loop [7, 8, 9, 10] (fun rv kv _ _ => ∃ (r : Int) (k f : Nat), rv = .int .i64 r ∧ kv = .int .i64 k ∧ k + f = s.size ∧ 0 ≤ r ∧ r ≤ den ∧ Hid (coin s den f r k = (x, u, ok))) (fun _ kv _ _ => s.size - (intOf kv).toNat)
  case atStart => exact ⟨num, 0, s.size, rfl, rfl, by omega, h0, h1, HR.out⟩
  case round =>
    obtain ⟨r, k, f, rfl, rfl, hkf, r0, r1, HC⟩ := hrel
    by_cases hk : k < s.size
    · obtain ⟨f, rfl⟩ : ∃ f', f = f' + 1 := ⟨f - 1, by omega⟩
      have hb := bit_in HS.out.all hk
      have e1 := get_bt s k hk
      have HC0 := HC.out
      rw [coin] at HC0
      rw [← e1] at hb HC0
      generalize hy : ((s[k]'hk).toNat : Int) = y at hb HC0
      have HY := Lib.hid hy
      clear e1
      by_cases hd : r * 2 < den
      · rw [if_pos hd] at HC0
        by_cases hz : y = 48
        · rw [if_pos hz] at HC0
          subst hz
          have HC1 := Lib.hid HC0
          clear HC HC0
          go_wp2
          go_round
          case rel => exact ⟨_, k + 1, f, rfl, by go_num, by omega, by omega, by omega, HC1.out⟩
          case measure => simp [intOf]; omega
        · rw [if_neg hz] at HC0
          obtain ⟨rfl, rfl, rfl⟩ : x = 0 ∧ u = ((k + 1 : Nat) : Int) ∧ ok = true := ⟨(congrArg Prod.fst HC0).symm, (congrArg (fun t => t.2.1) HC0).symm, (congrArg (fun t => t.2.2) HC0).symm⟩
          obtain rfl : y = 49 := by omega
          clear HC HC0
          go_wp2
          go_returns
          exact ⟨rfl, B⟩
      · rw [if_neg hd] at HC0
        by_cases hz : y = 49
        · rw [if_pos hz] at HC0
          subst hz
          have HC1 := Lib.hid HC0
          clear HC HC0
          go_wp2
          go_round
          case rel => exact ⟨_, k + 1, f, rfl, by go_num, by omega, by omega, by omega, HC1.out⟩
          case measure => simp [intOf]; omega
        · rw [if_neg hz] at HC0
          obtain ⟨rfl, rfl, rfl⟩ : x = 1 ∧ u = ((k + 1 : Nat) : Int) ∧ ok = true := ⟨(congrArg Prod.fst HC0).symm, (congrArg (fun t => t.2.1) HC0).symm, (congrArg (fun t => t.2.2) HC0).symm⟩
          obtain rfl : y = 48 := by omega
          clear HC HC0
          go_wp2
          go_returns
          exact ⟨rfl, B⟩
    · obtain rfl : f = 0 := by omega
      obtain rfl : k = s.size := by omega
      obtain ⟨rfl, rfl, rfl⟩ : x = 0 ∧ u = 0 ∧ ok = false := by have := HC.out; rw [coin] at this; exact ⟨(congrArg Prod.fst this).symm, (congrArg (fun t => t.2.1) this).symm, (congrArg (fun t => t.2.2) this).symm⟩
      go_wp2
      go_returns
      exact ⟨rfl, B⟩
theorem lawCoin_core (num den : Int) (s : ByteArray) (w : World) (hl : s.size ≤ 1048576) (x u : Int) (ok : Bool)
    (HS : Hid (∀ W : World, Calls Try.prog 18 #[.agg #[.int .i64 num, .int .i64 den], .string s] W fun e w' => e = .returned (.tuple #[.int .i64 x, .int .i64 u, .bool ok]) ∧ Below W.heap.size W w'))
    (HI : Hid (∀ W : World, Calls Try.prog 20 #[.agg #[.int .i64 num, .int .i64 den], .string s] W fun e w' => e = .returned (.tuple #[.int .i64 x, .int .i64 u, .bool ok]) ∧ Below W.heap.size W w')) :
    Calls Try.prog 6 #[.agg #[.int .i64 num, .int .i64 den], .string s] w fun e w' => e = .returned (.bool true) ∧ Below w.heap.size w w' := by
  have h1 : (x != x) = false := by simp
  have h2 : (u != u) = false := by simp
  have h3 : (ok != ok) = false := by simp
  go_enter Try.func6, Try.ntmps6
  have A0 := D2.new w (.int .i64 num) (.int .i64 den) 31
  have B := (Below.refl w.heap.size w).alloc (Nat.le_refl _) (.cells #[.int .i64 num, .int .i64 den] 31)
  go_wp2_with fail
  refine (toFrac_any num den _).mono ?_
  rintro e w1 ⟨rfl, hb⟩
  replace A0 := A0.far hb
  replace B := B.trans (hb.mono B.size)
  clear hb
  go_wp2_with fail
  refine (HS.out _).mono ?_
  rintro e w2 ⟨rfl, hb⟩
  replace A0 := A0.far hb
  replace B := B.trans (hb.mono B.size)
  clear hb
  obtain ⟨⟨c0, c1⟩, _, _⟩ := id A0
  go_wp2_with fail
  refine (toFrac_any num den _).mono ?_
  rintro e w3 ⟨rfl, hb⟩
  replace B := B.trans (hb.mono B.size)
  clear hb c0 c1 A0
  go_wp2_with fail
  refine (HI.out _).mono ?_
  rintro e w4 ⟨rfl, hb⟩
  replace B := B.trans (hb.mono B.size)
  clear hb
  go_wp2
  go_ret
  exact ⟨rfl, B⟩
theorem lawCoin (num den : Int) (s : ByteArray) (w : World) (hm : s.size ≤ maxLen) :
    Calls Try.prog 6 #[.agg #[.int .i64 num, .int .i64 den], .string s] w fun e w' => e = .returned (.bool true) ∧ Below w.heap.size w w' := by
  by_cases hl : s.size ≤ 1048576
  · by_cases h : VF num den ∧ 0 ≤ num ∧ num ≤ den
    · by_cases hs : BitsP s
      · obtain ⟨⟨x, u, ok⟩, hR⟩ : ∃ p, coin s den s.size num 0 = p := ⟨_, rfl⟩
        exact lawCoin_core num den s w hl x u ok (fun W => specCoin_yes num den s W h.1 h.2.1 h.2.2 hs x u ok hR) (fun W => coin_yes num den s W h.1 h.2.1 h.2.2 hs x u ok hR)
      · exact lawCoin_core num den s w hl 0 0 false (fun W => specCoin_no num den s W hm fun y => hs y.2) (fun W => coin_noB num den s W h.1 h.2.1 h.2.2 hm hs)
    · exact lawCoin_core num den s w hl 0 0 false (fun W => specCoin_no num den s W hm fun y => h y.1) (fun W => coin_noA num den s W h)
  · unfold maxLen at hm
    go_enter Try.func6, Try.ntmps6
    go_wp2
    go_ret
    exact ⟨rfl, by go_grown⟩
end Go.Proofs.Ytamedggnkbhgeab
