/- A coin with a chance: impl.CoinFrom, spec.CoinFrom. -/
import Derived.Test.YtamedggnkbhgeaaRdr
import Derived.Test.YtamedggnkbhgeaaRollMath
import Derived.Test.YtamedggnkbhgeaaFrac
import Derived.Test.YtamedggnkbhgeaaMix
namespace Go.Proofs.Ytamedggnkbhgeaa
open Go.RowKit Go.PlainAid
set_option maxHeartbeats 1000000

def CoinInv (s : ByteArray) (den : Int) (R : Int × Int × Bool) (B b : Nat) (num r : Int) (w wr : World) : Prop :=
  Below B w wr ∧ B ≤ b ∧ D2 wr B (.int .i64 num) (.int .i64 den) ∧ B ≠ b ∧ ((∃ k f : Nat, k + f = s.size ∧ Rd wr b s k false ∧ 0 ≤ r ∧ r ≤ den ∧ coin s den f r k = R) ∨ ∃ k, Rd wr b s k true ∧ R = (0, 0, false))

theorem coin_yes (num den : Int) (s : ByteArray) (w : World) (h : VF num den) (h0 : 0 ≤ num) (h1 : num ≤ den) (hs : BitsP s) (x u : Int) (ok : Bool) (hR : coin s den s.size num 0 = (x, u, ok)) :
    Calls Try.prog 23 #[.agg #[.int .i64 num, .int .i64 den], .string s] w fun e w' => e = .returned (.tuple #[.int .i64 x, .int .i64 u, .bool ok]) ∧ Below w.heap.size w w' := by
  have HV := Lib.hid h
  have HS := Lib.hid hs
  have HR := Lib.hid hR
  have hd1 := h.1
  have hd2 := h.2.1
  have h4 := hs.len
  have hsm : s.size ≤ maxLen := by unfold maxLen; omega
  have HM := Lib.hid hsm
  clear h hs hR hsm
  go_enter Try.func23, Try.ntmps23
  have A0 := D2.new w (.int .i64 num) (.int .i64 den) 37
  have B := (Below.refl w.heap.size w).alloc (Nat.le_refl _) (.cells #[.int .i64 num, .int .i64 den] 37)
  go_wp2_with fail
  refine (valid_yes num den _ HV.out).mono ?_
  rintro e w1 ⟨rfl, hb⟩
  replace A0 := A0.far hb
  replace B := B.trans (hb.mono B.size)
  clear hb
  obtain ⟨⟨c0, c1⟩, _, _⟩ := id A0
  go_wp2_with fail
  refine (btw64_yes num 0 den w1 h0 h1).mono ?_
  rintro e w2 ⟨rfl, rfl⟩
  clear c0 c1
  go_wp2_with fail
  obtain ⟨q0, q1⟩ := (A0.drew).gr (rw := none) (by simp)
  refine wp_region_mix (none) [0, 2, 3] [1, 4, 5] (by kernel_rfl) (by kernel_rfl) ?_
  simp only [pickOps, List.filterMap_cons, List.filterMap_nil, List.getElem?_toArray, List.getElem?_cons_succ, List.getElem?_cons_zero]
  repeat (refine wpQuietG_step (fun K hK => ?_); go_simp; first | (refine hK _ ?_; clear hK K) | (apply Exists.intro; refine ⟨fun _ => ?_, hK _ ?_⟩; (fail); clear hK K))
  refine wpQuietG_nil ?_
  clear q0 q1
  intro W hW1 hW2
  go_wp2_with fail
  refine (readerOf_yes s _ HS.out).mono ?_
  rintro e w3 ⟨b, rfl, hbb, hrd, hb3⟩
  go_wp2
  have g3 := gr_step hW1 hb3
  have z1 : w1.heap.size ≤ W.heap.size := hW1.size
  refine ⟨g3, ?_⟩
  intro W4 hW3 hW4
  go_wp2
  try refine ⟨hW3, ?_⟩
  intro W5 hW5 hW6
  go_wp2
  try refine ⟨hW5, ?_⟩
  intro W6 hW7 hW8
  have z0 := A0.lt
  have RD := Lib.hid ((hrd.far hW4).far (hW6.trans (hW8.mono hW6.size)))
  replace hW7 := gr_undrew hW7
  replace A0 := A0.grow hW7 (by simp)
  replace B := B.grown hW7 B.size (by simp)
  have hz := A0.lt
  have hne : w.heap.size < b := by omega
  clear hW1 hW2 hW3 hW4 hW5 hW6 hW7 hW8 hrd hb3 g3
  go_wp2_with fail
  go_loopw [8, 9, 10] (fun rv _ _ wr => ∃ r : Int, rv = .int .i64 r ∧ CoinInv s den (x, u, ok) w.heap.size b num r w wr) (fun _ _ _ wr => rdLeft b s.size wr)
  case atStart => exact ⟨num, rfl, B, by omega, A0, by omega, .inl ⟨0, s.size, by omega, RD.out, h0, h1, HR.out⟩⟩
  case round =>
    obtain ⟨r, rfl, hB, hbb, A1, hne2, hK⟩ := hrel
    obtain ⟨⟨d0, d1⟩, _, _⟩ := id A1
    have HB := Lib.hid hB
    have HA := Lib.hid A1
    clear RD A0 B A1 hB
    rcases hK with ⟨k, f, hkf, hrd, r0, r1, HC⟩ | ⟨k, hrd, hRf⟩
    · obtain ⟨⟨c0, c1, c2⟩, _, _⟩ := id hrd
      have HRD := Lib.hid hrd
      clear hrd
      have hbit : ∀ hk : k < s.size, bt s k - 48 = 0 ∨ bt s k - 48 = 1 := fun hk => by have := bit_in HS.out.all hk; omega
      by_cases hk : k < s.size
      · obtain ⟨f, rfl⟩ : ∃ f', f = f' + 1 := ⟨f - 1, by omega⟩
        replace hbit := hbit hk
        by_cases hd : r * 2 < den
        · rcases hbit with hv | hv
          · have hv2 : bt s k = 48 := by omega
            have HN : Hid (∀ W : World, Rd W b s k false → Calls Try.prog 48 #[.pointer (some ⟨b, 0, none⟩)] W fun e w' => e = .returned (.int .i64 0) ∧ Rd w' b s (k + 1) false ∧ W.grownBy w' (some b)) := fun W h => by have := rdNext_yes b s k W h HS.out hk; rwa [hv] at this
            have HC2 : Hid (coin s den f (r * 2) (k + 1) = (x, u, ok)) := by have := HC; rw [coin, if_pos hd, if_pos hv2] at this; exact this
            clear hv hv2 HC
            go_wp2_with fail
            refine (HN.out _ HRD.out).mono ?_
            rintro e w7 ⟨rfl, hrd7, hg7⟩
            have B7 := HB.out.grown hg7 HB.out.size (by simp; omega)
            have A7 := HA.out.grow hg7 (by simp; omega)
            have K := Lib.hid (And.intro hrd7 (And.intro B7 A7))
            clear hrd7 hg7 B7 A7
            go_wp2
            go_roundw
            case rel => exact ⟨_, rfl, K.out.2.1, hbb, K.out.2.2, hne2, .inl ⟨k + 1, f, by omega, K.out.1, by omega, by omega, HC2.out⟩⟩
            case measure => rw [left_ok K.out.1, left_ok HRD.out]; omega
          · have hv2 : bt s k = 49 := by omega
            have HN : Hid (∀ W : World, Rd W b s k false → Calls Try.prog 48 #[.pointer (some ⟨b, 0, none⟩)] W fun e w' => e = .returned (.int .i64 1) ∧ Rd w' b s (k + 1) false ∧ W.grownBy w' (some b)) := fun W h => by have := rdNext_yes b s k W h HS.out hk; rwa [hv] at this
            obtain ⟨rfl, rfl, rfl⟩ : x = 0 ∧ u = ((k + 1 : Nat) : Int) ∧ ok = true := by have := HC; rw [coin, if_pos hd, if_neg (by omega)] at this; exact ⟨(congrArg Prod.fst this).symm, (congrArg (fun t => t.2.1) this).symm, (congrArg (fun t => t.2.2) this).symm⟩
            clear hv hv2 HC
            go_wp2_with fail
            refine (HN.out _ HRD.out).mono ?_
            rintro e w7 ⟨rfl, hrd7, hg7⟩
            have B7 := HB.out.grown hg7 HB.out.size (by simp; omega)
            have A7 := HA.out.grow hg7 (by simp; omega)
            have K := Lib.hid (And.intro hrd7 (And.intro B7 A7))
            clear hrd7 hg7 B7 A7
            go_wp2_with fail
            refine (drawn_yes b s (k + 1) _ _ K.out.1).mono ?_
            rintro e w8 ⟨rfl, hb8⟩
            go_wp2
            go_returns
            exact ⟨rfl, K.out.2.1.trans (hb8.mono K.out.2.1.size)⟩
        · rcases hbit with hv | hv
          · have hv2 : bt s k = 48 := by omega
            have HN : Hid (∀ W : World, Rd W b s k false → Calls Try.prog 48 #[.pointer (some ⟨b, 0, none⟩)] W fun e w' => e = .returned (.int .i64 0) ∧ Rd w' b s (k + 1) false ∧ W.grownBy w' (some b)) := fun W h => by have := rdNext_yes b s k W h HS.out hk; rwa [hv] at this
            obtain ⟨rfl, rfl, rfl⟩ : x = 1 ∧ u = ((k + 1 : Nat) : Int) ∧ ok = true := by have := HC; rw [coin, if_neg hd, if_neg (by omega)] at this; exact ⟨(congrArg Prod.fst this).symm, (congrArg (fun t => t.2.1) this).symm, (congrArg (fun t => t.2.2) this).symm⟩
            clear hv hv2 HC
            go_wp2_with fail
            go_quiet (fail)
            go_wp2_with fail
            refine (HN.out _ (HRD.out.drewN _)).mono ?_
            rintro e w7 ⟨rfl, hrd7, hg7⟩
            replace hg7 : wr.grownBy w7 (some b) := ⟨hg7.os, hg7.tape, hg7.output, hg7.size, hg7.block⟩
            have B7 := HB.out.grown hg7 HB.out.size (by simp; omega)
            have A7 := HA.out.grow hg7 (by simp; omega)
            have K := Lib.hid (And.intro hrd7 (And.intro B7 A7))
            clear hrd7 hg7 B7 A7
            go_wp2_with fail
            refine (drawn_yes b s (k + 1) _ _ K.out.1).mono ?_
            rintro e w8 ⟨rfl, hb8⟩
            go_wp2
            go_returns
            exact ⟨rfl, K.out.2.1.trans (hb8.mono K.out.2.1.size)⟩
          · have hv2 : bt s k = 49 := by omega
            have HN : Hid (∀ W : World, Rd W b s k false → Calls Try.prog 48 #[.pointer (some ⟨b, 0, none⟩)] W fun e w' => e = .returned (.int .i64 1) ∧ Rd w' b s (k + 1) false ∧ W.grownBy w' (some b)) := fun W h => by have := rdNext_yes b s k W h HS.out hk; rwa [hv] at this
            have HC2 : Hid (coin s den f (r * 2 - den) (k + 1) = (x, u, ok)) := by have := HC; rw [coin, if_neg hd, if_pos hv2] at this; exact this
            clear hv hv2 HC
            go_wp2_with fail
            go_quiet (fail)
            go_wp2_with fail
            refine (HN.out _ (HRD.out.drewN _)).mono ?_
            rintro e w7 ⟨rfl, hrd7, hg7⟩
            replace hg7 : wr.grownBy w7 (some b) := ⟨hg7.os, hg7.tape, hg7.output, hg7.size, hg7.block⟩
            have B7 := HB.out.grown hg7 HB.out.size (by simp; omega)
            have A7 := HA.out.grow hg7 (by simp; omega)
            have K := Lib.hid (And.intro hrd7 (And.intro B7 A7))
            clear hrd7 hg7 B7 A7
            go_wp2
            go_roundw
            case rel => exact ⟨_, rfl, K.out.2.1, hbb, K.out.2.2, hne2, .inl ⟨k + 1, f, by omega, K.out.1, by omega, by omega, HC2.out⟩⟩
            case measure => rw [left_ok K.out.1, left_ok HRD.out]; omega
      · clear hbit
        by_cases hd : r * 2 < den
        · obtain rfl : f = 0 := by omega
          obtain rfl : k = s.size := by omega
          obtain ⟨rfl, rfl, rfl⟩ : x = 0 ∧ u = 0 ∧ ok = false := by have := HC; rw [coin] at this; exact ⟨(congrArg Prod.fst this).symm, (congrArg (fun t => t.2.1) this).symm, (congrArg (fun t => t.2.2) this).symm⟩
          have HN : Hid (∀ W : World, Rd W b s s.size false → Calls Try.prog 48 #[.pointer (some ⟨b, 0, none⟩)] W fun e w' => e = .returned (.int .i64 0) ∧ Rd w' b s s.size true ∧ W.grownBy w' (some b)) := fun W h => rdNext_no b s s.size false W h (.inr rfl)
          clear HC
          go_wp2_with fail
          refine (HN.out _ HRD.out).mono ?_
          rintro e w7 ⟨rfl, hrd7, hg7⟩
          have B7 := HB.out.grown hg7 HB.out.size (by simp; omega)
          have A7 := HA.out.grow hg7 (by simp; omega)
          have K := Lib.hid (And.intro hrd7 (And.intro B7 A7))
          clear hrd7 hg7 B7 A7
          go_wp2
          go_roundw
          case rel => exact ⟨_, rfl, K.out.2.1, hbb, K.out.2.2, hne2, .inr ⟨_, K.out.1, rfl⟩⟩
          case measure => rw [left_no K.out.1, left_ok HRD.out]; omega
        · obtain rfl : f = 0 := by omega
          obtain rfl : k = s.size := by omega
          obtain ⟨rfl, rfl, rfl⟩ : x = 0 ∧ u = 0 ∧ ok = false := by have := HC; rw [coin] at this; exact ⟨(congrArg Prod.fst this).symm, (congrArg (fun t => t.2.1) this).symm, (congrArg (fun t => t.2.2) this).symm⟩
          have HN : Hid (∀ W : World, Rd W b s s.size false → Calls Try.prog 48 #[.pointer (some ⟨b, 0, none⟩)] W fun e w' => e = .returned (.int .i64 0) ∧ Rd w' b s s.size true ∧ W.grownBy w' (some b)) := fun W h => rdNext_no b s s.size false W h (.inr rfl)
          clear HC
          go_wp2_with fail
          go_quiet (fail)
          go_wp2_with fail
          refine (HN.out _ (HRD.out.drewN _)).mono ?_
          rintro e w7 ⟨rfl, hrd7, hg7⟩
          replace hg7 : wr.grownBy w7 (some b) := ⟨hg7.os, hg7.tape, hg7.output, hg7.size, hg7.block⟩
          have B7 := HB.out.grown hg7 HB.out.size (by simp; omega)
          have A7 := HA.out.grow hg7 (by simp; omega)
          have K := Lib.hid (And.intro hrd7 (And.intro B7 A7))
          clear hrd7 hg7 B7 A7
          go_wp2_with fail
          refine (drawn_no b s s.size _ _ K.out.1).mono ?_
          rintro e w8 ⟨rfl, hb8⟩
          go_wp2
          go_returns
          exact ⟨rfl, K.out.2.1.trans (hb8.mono K.out.2.1.size)⟩
    · obtain ⟨⟨c0, c1, c2⟩, _, _⟩ := id hrd
      obtain ⟨rfl, rfl, rfl⟩ : x = 0 ∧ u = 0 ∧ ok = false := by simpa using hRf
      go_wp2
      go_returns
      exact ⟨rfl, HB.out⟩

theorem coin_noA (num den : Int) (s : ByteArray) (w : World) (h : ¬ (VF num den ∧ 0 ≤ num ∧ num ≤ den)) :
    Calls Try.prog 23 #[.agg #[.int .i64 num, .int .i64 den], .string s] w fun e w' => e = .returned (.tuple #[.int .i64 0, .int .i64 0, .bool false]) ∧ Below w.heap.size w w' := by
  by_cases hv : VF num den
  · have HV := Lib.hid hv
    have HB : Hid (∀ W : World, Calls Try.prog 43 #[.int .i64 num, .int .i64 0, .int .i64 den] W fun e w' => e = .returned (.bool false) ∧ W = w') := fun W => btw64_no num 0 den W fun x => h ⟨hv, x⟩
    clear h hv
    go_enter Try.func23, Try.ntmps23
    have A0 := D2.new w (.int .i64 num) (.int .i64 den) 37
    have B := (Below.refl w.heap.size w).alloc (Nat.le_refl _) (.cells #[.int .i64 num, .int .i64 den] 37)
    go_wp2_with fail
    refine (valid_yes num den _ HV.out).mono ?_
    rintro e w1 ⟨rfl, hb⟩
    replace A0 := A0.far hb
    replace B := B.trans (hb.mono B.size)
    clear hb
    obtain ⟨⟨c0, c1⟩, _, _⟩ := id A0
    go_wp2_with fail
    refine (HB.out _).mono ?_
    rintro e w2 ⟨rfl, rfl⟩
    go_wp2
    go_returns
    exact ⟨rfl, B⟩
  · have HV := Lib.hid hv
    clear h hv
    go_enter Try.func23, Try.ntmps23
    have A0 := D2.new w (.int .i64 num) (.int .i64 den) 37
    have B := (Below.refl w.heap.size w).alloc (Nat.le_refl _) (.cells #[.int .i64 num, .int .i64 den] 37)
    go_wp2_with fail
    refine (valid_no num den _ HV.out).mono ?_
    rintro e w1 ⟨rfl, hb⟩
    replace B := B.trans (hb.mono B.size)
    clear hb A0
    go_wp2
    go_returns
    exact ⟨rfl, B⟩
theorem coin_noB (num den : Int) (s : ByteArray) (w : World) (h : VF num den) (h0 : 0 ≤ num) (h1 : num ≤ den) (hm : s.size ≤ maxLen) (hs : ¬ BitsP s) :
    Calls Try.prog 23 #[.agg #[.int .i64 num, .int .i64 den], .string s] w fun e w' => e = .returned (.tuple #[.int .i64 0, .int .i64 0, .bool false]) ∧ Below w.heap.size w w' := by
  have HV := Lib.hid h
  have HN : Hid (∀ W : World, Calls Try.prog 44 #[.string s] W (NewRd s true W)) := fun W => readerOf_no s W hm hs
  clear h hs
  go_enter Try.func23, Try.ntmps23
  have A0 := D2.new w (.int .i64 num) (.int .i64 den) 37
  have B := (Below.refl w.heap.size w).alloc (Nat.le_refl _) (.cells #[.int .i64 num, .int .i64 den] 37)
  go_wp2_with fail
  refine (valid_yes num den _ HV.out).mono ?_
  rintro e w1 ⟨rfl, hb⟩
  replace A0 := A0.far hb
  replace B := B.trans (hb.mono B.size)
  clear hb
  obtain ⟨⟨c0, c1⟩, _, _⟩ := id A0
  go_wp2_with fail
  refine (btw64_yes num 0 den w1 h0 h1).mono ?_
  rintro e w2 ⟨rfl, rfl⟩
  clear c0 c1
  go_wp2_with fail
  obtain ⟨q0, q1⟩ := (A0.drew).gr (rw := none) (by simp)
  refine wp_region_mix (none) [0, 2, 3] [1, 4, 5] (by kernel_rfl) (by kernel_rfl) ?_
  simp only [pickOps, List.filterMap_cons, List.filterMap_nil, List.getElem?_toArray, List.getElem?_cons_succ, List.getElem?_cons_zero]
  repeat (refine wpQuietG_step (fun K hK => ?_); go_simp; first | (refine hK _ ?_; clear hK K) | (apply Exists.intro; refine ⟨fun _ => ?_, hK _ ?_⟩; (fail); clear hK K))
  refine wpQuietG_nil ?_
  clear q0 q1
  intro W hW1 hW2
  go_wp2_with fail
  refine (HN.out _).mono ?_
  rintro e w3 ⟨b, rfl, hbb, hrd, hb3⟩
  go_wp2
  have g3 := gr_step hW1 hb3
  refine ⟨g3, ?_⟩
  intro W4 hW3 hW4
  go_wp2
  try refine ⟨hW3, ?_⟩
  intro W5 hW5 hW6
  go_wp2
  try refine ⟨hW5, ?_⟩
  intro W6 hW7 hW8
  have RD := (hrd.far hW4).far (hW6.trans (hW8.mono hW6.size))
  replace hW7 := gr_undrew hW7
  replace A0 := A0.grow hW7 (by simp)
  replace B := B.grown hW7 B.size (by simp)
  obtain ⟨⟨c0, c1, c2⟩, _, _⟩ := id RD
  clear hW1 hW2 hW3 hW4 hW5 hW6 hW7 hW8 hrd hb3 g3
  go_wp2_with fail
  refine wp_loop_rounds 1 ?_
  rw [rounds_succ]
  go_wp2
  go_returns
  exact ⟨rfl, B⟩

end Go.Proofs.Ytamedggnkbhgeaa
