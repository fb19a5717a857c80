/- A face by a tree: impl.RollTree, spec.RollTree, and the law. -/
import Derived.Test.YtamedggnkbhgeaaDoorTreeS
import Derived.Test.YtamedggnkbhgeaaDoorRdr
import Derived.Test.YtamedggnkbhgeaaDoorMix
namespace Go.Proofs.YtamedggnkbhgeaaDoor
open Go.RowKit Go.PlainAid
set_option maxHeartbeats 1000000

/-- what the bits draw from level d on, with v before it, over f levels -/
def tr (xs : List Int) (k : Nat) (s : ByteArray) : Nat → Nat → Nat → Int × Int × Bool
  | 0, _, _ => (0, 0, false)
  | f + 1, d, v => if v < (lvs xs (k - d) xs.length).length then ((lvs xs (k - d) xs.length).getD v 0, (d : Int), true) else if s.size ≤ d then (0, 0, false) else tr xs k s f (d + 1) (2 * (v - (lvs xs (k - d) xs.length).length) + (bt s d - 48).toNat)
theorem tr_hit {xs : List Int} {k : Nat} {s : ByteArray} {L v : Nat} {x u : Int} {ok : Bool} (h : tr xs k s (k + 1 - L) L v = (x, u, ok)) (hL : L < k + 1) (hv : v < (lvs xs (k - L) xs.length).length) : x = (lvs xs (k - L) xs.length).getD v 0 ∧ u = (L : Int) ∧ ok = true := by
  rw [show k + 1 - L = (k - L) + 1 by omega, tr, if_pos hv] at h
  exact ⟨(congrArg Prod.fst h).symm, (congrArg (fun t => t.2.1) h).symm, (congrArg (fun t => t.2.2) h).symm⟩
theorem tr_out {xs : List Int} {k : Nat} {s : ByteArray} {L v : Nat} {x u : Int} {ok : Bool} (h : tr xs k s (k + 1 - L) L v = (x, u, ok)) (hL : k + 1 ≤ L ∨ (¬ v < (lvs xs (k - L) xs.length).length ∧ s.size ≤ L)) : x = 0 ∧ u = 0 ∧ ok = false := by
  by_cases e : k + 1 ≤ L
  · rw [show k + 1 - L = 0 by omega, tr] at h
    exact ⟨(congrArg Prod.fst h).symm, (congrArg (fun t => t.2.1) h).symm, (congrArg (fun t => t.2.2) h).symm⟩
  · obtain ⟨h1, h2⟩ := hL.resolve_left e
    rw [show k + 1 - L = (k - L) + 1 by omega, tr, if_neg h1, if_pos h2] at h
    exact ⟨(congrArg Prod.fst h).symm, (congrArg (fun t => t.2.1) h).symm, (congrArg (fun t => t.2.2) h).symm⟩
theorem tr_next {xs : List Int} {k : Nat} {s : ByteArray} {L v l t : Nat} {x u : Int} {ok : Bool} (h : tr xs k s (k + 1 - L) L v = (x, u, ok)) (hL : L < k + 1) (hl : (lvs xs (k - L) xs.length).length = l) (hv : ¬ v < l) (hs : ¬ s.size ≤ L) (ht : bt s L - 48 = (t : Int)) : tr xs k s (k + 1 - (L + 1)) (L + 1) (2 * (v - l) + t) = (x, u, ok) := by
  rw [show k + 1 - L = (k - L) + 1 by omega, tr, hl, if_neg hv, if_neg hs, ht] at h
  rw [show k + 1 - (L + 1) = k - L by omega]
  exact h
theorem tr_room {L v l t : Nat} (h : v + 1 ≤ 2 ^ L) (ht : t ≤ 1) (hv : l ≤ v) : 2 * (v - l) + t + 1 ≤ 2 ^ (L + 1) := by
  rw [Nat.pow_succ]
  omega
theorem tr_small {L v : Nat} (h : v + 1 ≤ 2 ^ L) (hL : L ≤ 13) : v ≤ 8191 := by
  have h5 : 2 ^ L ≤ 2 ^ 13 := Nat.pow_le_pow_right (by omega) hL
  omega
theorem rowI_read {B : Nat} {w : World} {v : Value} {l : List Int} (h : RowI B w v l) : ∃ p c, v = .slice p l.length c ∧ ∀ i y, l[i]? = some y → ∃ q : Nat, p = some ⟨q, 0, none⟩ ∧ w.cell? ⟨q, i, none⟩ = some (.int .i64 y) := by
  rcases h.2 with ⟨rfl, h0⟩ | ⟨g, cap, cur, rfl, _, hh, _, _, hcs, htk⟩
  · refine ⟨none, 0, by rw [h0], fun i y hy => ?_⟩
    have : i < l.length := (List.getElem?_eq_some_iff.1 hy).1
    omega
  · refine ⟨_, _, rfl, fun i y hy => ⟨g, rfl, ?_⟩⟩
    have hi : i < l.length := (List.getElem?_eq_some_iff.1 hy).1
    rw [Lib.cell_of_heap hh, ← Array.getElem?_toList]
    have h2 : (l.map (Value.int .i64))[i]? = some (.int .i64 y) := by rw [List.getElem?_map, hy]; rfl
    rw [← htk, List.getElem?_take] at h2
    simpa [hi] using h2
def LvRd (w : World) (g : Nat) (xs : List Int) (k : Nat) : Prop := ∀ d, d < k + 1 → ∃ p c, w.cell? ⟨g, d, none⟩ = some (.slice p (lvs xs (k - d) xs.length).length c) ∧ ∀ i y, (lvs xs (k - d) xs.length)[i]? = some y → ∃ q : Nat, p = some ⟨q, 0, none⟩ ∧ w.cell? ⟨q, i, none⟩ = some (.int .i64 y)
theorem LvRd.below {w w' : World} {g : Nat} {xs : List Int} {k : Nat} (h : LvRd w g xs k) (hb : Below w.heap.size w w') : LvRd w' g xs k := by
  intro d hd
  obtain ⟨p, c, hc, hr⟩ := h d hd
  refine ⟨p, c, (hb.cell (p := ⟨g, d, none⟩) (World.block_lt_of_cell? w _ hc)).trans hc, fun i y hy => ?_⟩
  obtain ⟨q, hq, hcq⟩ := hr i y hy
  exact ⟨q, hq, (hb.cell (p := ⟨q, i, none⟩) (World.block_lt_of_cell? w _ hcq)).trans hcq⟩
theorem LvV.rd {B : Nat} {w : World} {g : Nat} {xs : List Int} {k : Nat} (h : LvV B w g xs k) : LvRd w g xs k := by
  obtain ⟨_, cs, hh, _, h2, _⟩ := h
  intro d hd
  obtain ⟨v, hv, hr⟩ := h2 d hd
  obtain ⟨p, c, rfl, hq⟩ := rowI_read hr
  exact ⟨p, c, by rw [Lib.cell_of_heap hh]; exact hv, hq⟩
theorem LvS.rd {B : Nat} {w : World} {v : Value} {vs : List Value} {xs : List Int} {k : Nat} (h : LvS B w v vs xs k (k + 1)) : ∃ g c : Nat, v = .slice (some ⟨g, 0, none⟩) (k + 1) c ∧ LvRd w g xs k := by
  obtain ⟨⟨_, h1⟩, h2⟩ := h
  rcases h1 with ⟨_, h0⟩ | ⟨g, cap, cur, rfl, _, hh, _, _, hcs, htk⟩
  · omega
  · refine ⟨g, cap, rfl, fun d hd => ?_⟩
    obtain ⟨u, hu, hr⟩ := h2 d hd
    obtain ⟨p, c, rfl, hq⟩ := rowI_read hr
    refine ⟨p, c, ?_, hq⟩
    rw [Lib.cell_of_heap hh, ← Array.getElem?_toList]
    rw [← htk, List.getElem?_take] at hu
    simpa [show d < k + 1 by omega] using hu
theorem rollT_core (a : Option Addr) (n cap : Nat) (xs : List Int) (k : Nat) (s : ByteArray) (f : Bool) (w : World) (h : RO w.heap.size w a xs) (hT : Tz w.heap.size w) (hn : xs.length = n) (hl : n ≤ 1048576) (hD : DyP xs k) (x y : Int) (ok : Bool) (HF : Hid (∀ W : World, Calls Tryd.prog 31 #[.string s] W (NewRd s f W)))
    (hR : (f = false ∧ BitsP s ∧ tr xs k s (k + 1) 0 0 = (x, y, ok)) ∨ (f = true ∧ x = 0 ∧ y = 0 ∧ ok = false)) :
    Calls Tryd.prog 13 #[.slice a n cap, .string s] w fun e w' => e = .returned (.tuple #[.int .i64 x, .int .i64 y, .bool ok]) ∧ Below w.heap.size w w' := by
  have HL := Lib.hid (leaves_yes a n cap xs w.heap.size k w h hT hn hl hD)
  have HR := Lib.hid hR
  have hk := hD.1
  have hn16 : n ≤ 16 := by have := hD.2.1.1; omega
  have hn2 := hn
  clear h hT hn hD hR
  go_enter Tryd.func13, Tryd.ntmps13
  go_wp2_with fail
  refine (HL.out).mono ?_
  rintro e w1 ⟨g, c, rfl, hv, hb⟩
  have HV := Lib.hid hv.rd
  have HB := Lib.hid hb
  clear hv hb
  go_wp2_with fail
  refine (HF.out _).mono ?_
  rintro e w3 ⟨b, rfl, hbb, hrd, hb3⟩
  have HI : Hid ((Rd w3 b s 0 false ∧ BitsP s ∧ tr xs k s (k + 1) 0 0 = (x, y, ok)) ∨ (∃ u, Rd w3 b s u true ∧ (x = 0 ∧ y = 0 ∧ ok = false))) := by
    rcases HR.out with ⟨rfl, hs, hd⟩ | ⟨rfl, hz⟩
    · exact .inl ⟨hrd, hs, hd⟩
    · exact .inr ⟨0, hrd, hz⟩
  have HB3 := Lib.hid hb3
  clear HR hrd hb3 HF
  go_wp2_with fail
  go_loopw [10, 22] (fun nv lv wr => ∃ L v : Nat, L ≤ k + 1 ∧ lv = .int .i64 L ∧ nv = .int .i64 v ∧ Hid (v + 1 ≤ 2 ^ L) ∧ Hid (Below w1.heap.size w1 wr) ∧ Hid ((Rd wr b s L false ∧ BitsP s ∧ L ≤ s.size ∧ tr xs k s (k + 1 - L) L v = (x, y, ok)) ∨ (∃ u, Rd wr b s u true ∧ (x = 0 ∧ y = 0 ∧ ok = false)))) (fun _ lv _ => k + 1 - (intOf lv).toNat)
  case atStart => exact ⟨0, 0, Nat.zero_le _, rfl, rfl, (by decide : 0 + 1 ≤ 2 ^ 0), HB3, HI.out.imp (fun ⟨h1, h2, h3⟩ => ⟨h1, h2, Nat.zero_le _, h3⟩) id⟩
  case round =>
    obtain ⟨L, v, hL, rfl, rfl, HP, HB4, HD⟩ := hrel
    clear HI HB3
    have hv8 := tr_small HP.out (by omega)
    have HBw : Hid (Below w.heap.size w wr) := HB.out.trans (HB4.out.mono HB.out.size)
    have hbz : b < wr.heap.size := by
      rcases HD.out with ⟨h, _⟩ | ⟨_, h, _⟩
      · exact h.lt
      · exact h.lt
    by_cases hlt : L < k + 1
    · obtain ⟨p, c2, hc, hrow⟩ := (HV.out.below HB4.out) L hlt
      have HROW := Lib.hid hrow
      obtain ⟨l, hl⟩ : ∃ l, (lvs xs (k - L) xs.length).length = l := ⟨_, rfl⟩
      have hl2 : l ≤ n := by rw [← hl, ← hn2]; exact lvs_len _ _ _
      rw [hl] at hc
      clear hrow
      by_cases hv : v < l
      · obtain ⟨z, hz⟩ : ∃ z, (lvs xs (k - L) xs.length)[v]? = some z := ⟨_, List.getElem?_eq_getElem (by omega)⟩
        obtain ⟨q, rfl, hcq⟩ := HROW.out v z hz
        have HZ : Hid ((lvs xs (k - L) xs.length).getD v 0 = z) := by unfold Hid; rw [List.getD_eq_getElem?_getD, hz]; rfl
        have HL2 := Lib.hid hl
        clear hz hl HROW
        rcases HD.out with ⟨hrd, hs, hls, htr⟩ | ⟨u', hrd, hz⟩
        · have HRD := Lib.hid hrd
          obtain ⟨hx, rfl, rfl⟩ := tr_hit htr hlt (by rw [HL2.out]; exact hv)
          obtain rfl : x = z := hx.trans HZ.out
          clear hx HZ
          clear hrd hs hls htr HD
          go_wp2_with fail
          refine (drawn_yes b s L _ _ HRD.out).mono ?_
          rintro e w8 ⟨rfl, hb8⟩
          go_wp2
          go_returns
          exact ⟨rfl, HBw.out.trans (hb8.mono HBw.out.size)⟩
        · obtain ⟨rfl, rfl, rfl⟩ := hz
          have HRD := Lib.hid hrd
          clear hrd HD
          go_wp2_with fail
          refine (drawn_no b s u' _ _ HRD.out).mono ?_
          rintro e w8 ⟨rfl, hb8⟩
          go_wp2
          go_returns
          exact ⟨rfl, HBw.out.trans (hb8.mono HBw.out.size)⟩
      · have HN : ∃ t : Nat, t ≤ 1 ∧ Hid (∀ W : World, W = wr → Calls Tryd.prog 33 #[.pointer (some ⟨b, 0, none⟩)] W fun e w' => e = .returned (.int .i64 t) ∧ W.grownBy w' (some b) ∧ Hid ((Rd w' b s (L + 1) false ∧ BitsP s ∧ L + 1 ≤ s.size ∧ tr xs k s (k + 1 - (L + 1)) (L + 1) (2 * (v - l) + t) = (x, y, ok)) ∨ (∃ u, Rd w' b s u true ∧ (x = 0 ∧ y = 0 ∧ ok = false)))) := by
          rcases HD.out with ⟨hrd, hs, hls, htr⟩ | ⟨u', hrd, hz⟩
          · by_cases hsz : s.size ≤ L
            · refine ⟨0, by omega, fun W hW => ?_⟩
              subst hW
              refine (rdNext_no b s L false W hrd (.inr (by omega))).mono ?_
              rintro e w' ⟨rfl, h1, h2⟩
              exact ⟨rfl, h2, .inr ⟨L, h1, tr_out htr (.inr ⟨by rw [hl]; exact hv, hsz⟩)⟩⟩
            · have hbi := bit_in hs.all (show L < s.size by omega)
              obtain ⟨t, ht⟩ := Int.eq_ofNat_of_zero_le (a := bt s L - 48) (by omega)
              refine ⟨t, by omega, fun W hW => ?_⟩
              subst hW
              refine (rdNext_yes b s L W hrd hs (by omega)).mono ?_
              rintro e w' ⟨rfl, h1, h2⟩
              exact ⟨by rw [ht], h2, .inl ⟨h1, hs, by omega, tr_next htr hlt hl hv hsz ht⟩⟩
          · refine ⟨0, by omega, fun W hW => ?_⟩
            subst hW
            refine (rdNext_no b s u' true W hrd (.inl rfl)).mono ?_
            rintro e w' ⟨rfl, h1, h2⟩
            exact ⟨rfl, h2, .inr ⟨u', h1, hz⟩⟩
        obtain ⟨t, ht1, HN⟩ := HN
        have HP2 : Hid (2 * (v - l) + t + 1 ≤ 2 ^ (L + 1)) := tr_room HP.out ht1 (by omega)
        have hnv : 2 * ((v : Int) - (l : Int)) + (t : Int) = ((2 * (v - l) + t : Nat) : Int) := by omega
        clear HROW hl HD
        go_wp2_with fail
        refine (HN.out _ rfl).mono ?_
        rintro e w5 ⟨rfl, hg5, HK⟩
        have HB5 : Hid (Below w1.heap.size w1 w5) := HB4.out.grown hg5 HB4.out.size (by simp; omega)
        clear hg5
        go_wp2
        go_roundw
        case rel => exact ⟨L + 1, 2 * (v - l) + t, by omega, by go_num, by congr 1 <;> omega, HP2, HB5, HK⟩
        case measure => simp [intOf]; omega
    · obtain rfl : L = k + 1 := by omega
      have hz : x = 0 ∧ y = 0 ∧ ok = false := by
        rcases HD.out with ⟨_, _, _, htr⟩ | ⟨_, _, hz⟩
        · exact tr_out htr (.inl (Nat.le_refl _))
        · exact hz
      obtain ⟨rfl, rfl, rfl⟩ := hz
      go_wp2
      go_returns
      exact ⟨rfl, HBw.out⟩
theorem rollT_no (a : Option Addr) (n cap : Nat) (xs : List Int) (s : ByteArray) (f : Bool) (w : World) (h : RO w.heap.size w a xs) (hT : Tz w.heap.size w) (hn : xs.length = n) (hl : n ≤ 1048576) (hD : ¬ ∃ k, DyP xs k) (HF : Hid (∀ W : World, Calls Tryd.prog 31 #[.string s] W (NewRd s f W))) :
    Calls Tryd.prog 13 #[.slice a n cap, .string s] w fun e w' => e = .returned (.tuple #[.int .i64 0, .int .i64 0, .bool false]) ∧ Below w.heap.size w w' := by
  have HL := Lib.hid (leaves_no a n cap xs w.heap.size w h hT hn hl hD)
  clear h hT hn hD
  go_enter Tryd.func13, Tryd.ntmps13
  go_wp2_with fail
  refine (HL.out).mono ?_
  rintro e w1 ⟨rfl, rfl⟩
  go_wp2_with fail
  refine (HF.out _).mono ?_
  rintro e w3 ⟨b, rfl, hbb, hrd, hb3⟩
  have HB3 := Lib.hid hb3
  clear hrd hb3 HF
  go_wp2_with fail
  go_loopw [22] (fun lv wr => lv = .int .i64 0 ∧ w3 = wr) (fun _ _ => 0)
  case atStart => exact ⟨rfl, rfl⟩
  case round =>
    obtain ⟨rfl, rfl⟩ := hrel
    go_wp2
    go_returns
    exact ⟨rfl, HB3.out⟩
theorem l06Tree_yes (a : Option Addr) (n cap : Nat) (xs : List Int) (k : Nat) (s : ByteArray) (w : World) (h : RO w.heap.size w a xs) (hn : xs.length = n) (hl : n ≤ 1048576) (hD : DyP xs k) (hs : BitsP s) (x y : Int) (ok : Bool)
    (hR : tr xs k s (k + 1) 0 0 = (x, y, ok)) :
    Calls Tryd.prog 40 #[.slice a n cap, .string s] w fun e w' => e = .returned (.tuple #[.int .i64 x, .int .i64 y, .bool ok]) ∧ Below w.heap.size w w' := by
  have HL := Lib.hid (l06Levels_yes a n cap xs k w h hn hl hD)
  have HR := Lib.hid hR
  have HS := Lib.hid hs
  have hsz := hs.len
  have hk := hD.1
  have hn16 : n ≤ 16 := by have := hD.2.1.1; omega
  have hn2 := hn
  clear h hn hD hR hs
  go_enter Tryd.func40, Tryd.ntmps40
  go_wp2_with fail
  refine (HL.out).mono ?_
  rintro e w1 ⟨lv, vs, rfl, hv, hb⟩
  obtain ⟨g, c, rfl, hrd⟩ := hv.rd
  have HV := Lib.hid hrd
  have HB := Lib.hid hb
  clear hv hb hrd
  go_wp2_with fail
  go_loopw [8, 9] (fun nv lv wr => ∃ L v : Nat, L ≤ k + 1 ∧ lv = .int .i64 L ∧ nv = .int .i64 v ∧ Hid (v + 1 ≤ 2 ^ L) ∧ Hid (tr xs k s (k + 1 - L) L v = (x, y, ok)) ∧ Hid (∃ m, wr = w1.drewN m)) (fun _ lv _ => k + 1 - (intOf lv).toNat)
  case atStart => exact ⟨0, 0, Nat.zero_le _, rfl, rfl, (by decide : 0 + 1 ≤ 2 ^ 0), HR, ⟨0, rfl⟩⟩
  case round =>
    obtain ⟨L, v, hL, rfl, rfl, HP, HTR, HM⟩ := hrel
    obtain ⟨m, rfl⟩ := HM.out
    have hv8 := tr_small HP.out (by omega)
    have HBw : Hid (Below w.heap.size w (w1.drewN m)) := below_drewN HB.out m
    by_cases hlt : L < k + 1
    · obtain ⟨p, c2, hc, hrow⟩ := HV.out L hlt
      have HROW := Lib.hid hrow
      obtain ⟨l, hl⟩ : ∃ l, (lvs xs (k - L) xs.length).length = l := ⟨_, rfl⟩
      have hl2 : l ≤ n := by rw [← hl, ← hn2]; exact lvs_len _ _ _
      rw [hl] at hc
      replace hc : ∀ j, (w1.drewN j).cell? ⟨g, L, none⟩ = some (.slice p l c2) := fun j => by first | exact hc | (rw [← hc]; simp)
      clear hrow
      by_cases hv : v < l
      · obtain ⟨z, hz⟩ : ∃ z, (lvs xs (k - L) xs.length)[v]? = some z := ⟨_, List.getElem?_eq_getElem (by omega)⟩
        obtain ⟨q, rfl, hcq⟩ := HROW.out v z hz
        replace hcq : ∀ j, (w1.drewN j).cell? ⟨q, v, none⟩ = some (.int .i64 z) := fun j => by first | exact hcq | (rw [← hcq]; simp)
        have HZ : Hid ((lvs xs (k - L) xs.length).getD v 0 = z) := by unfold Hid; rw [List.getD_eq_getElem?_getD, hz]; rfl
        have HL2 := Lib.hid hl
        clear hz hl HROW
        obtain ⟨hx, rfl, rfl⟩ := tr_hit HTR.out hlt (by rw [HL2.out]; exact hv)
        obtain rfl : x = z := hx.trans HZ.out
        clear hx HZ
        go_wp2
        go_returns
        exact ⟨rfl, HBw.out⟩
      · clear HROW
        by_cases hsz : L < s.size
        · have hb := bit_in HS.out.all hsz
          have e1 := get_bt s L hsz
          obtain ⟨t, ht⟩ := Int.eq_ofNat_of_zero_le (a := bt s L - 48) (by omega)
          have HT2 : Hid (tr xs k s (k + 1 - (L + 1)) (L + 1) (2 * (v - l) + t) = (x, y, ok)) := tr_next HTR.out hlt hl hv (by omega) ht
          have HP2 : Hid (2 * (v - l) + t + 1 ≤ 2 ^ (L + 1)) := tr_room HP.out (by omega) (by omega)
          rw [← e1] at hb ht
          generalize hy : ((s[L]'hsz).toNat : Int) = yy at hb ht
          have hnv : 2 * ((v : Int) - (l : Int)) + (yy - 48) = ((2 * (v - l) + t : Nat) : Int) := by omega
          have ht1 : t ≤ 1 := by omega
          clear hl e1
          go_wp2
          go_roundw
          case rel => exact ⟨L + 1, 2 * (v - l) + t, by omega, by go_num, by congr 1 <;> omega, HP2, HT2, ⟨m, rfl⟩⟩
          case measure => simp [intOf]; omega
        · obtain ⟨rfl, rfl, rfl⟩ := tr_out HTR.out (.inr ⟨by rw [hl]; exact hv, by omega⟩)
          clear hl
          go_wp2
          go_returns
          exact ⟨rfl, HBw.out⟩
    · obtain rfl : L = k + 1 := by omega
      obtain ⟨rfl, rfl, rfl⟩ := tr_out HTR.out (.inl (Nat.le_refl _))
      go_wp2
      go_returns
      exact ⟨rfl, HBw.out⟩
theorem specRollT_yes (a : Option Addr) (n cap : Nat) (xs : List Int) (k : Nat) (s : ByteArray) (w : World) (h : RO w.heap.size w a xs) (hn : xs.length = n) (hl : n ≤ 1048576) (hD : DyP xs k) (hs : BitsP s) (x y : Int) (ok : Bool)
    (hR : tr xs k s (k + 1) 0 0 = (x, y, ok)) :
    Calls Tryd.prog 25 #[.slice a n cap, .string s] w fun e w' => e = .returned (.tuple #[.int .i64 x, .int .i64 y, .bool ok]) ∧ Below w.heap.size w w' := by
  have HV := Lib.hid (l06Level_yes a n cap xs k w h hn hl hD)
  have HB : Hid (∀ W : World, Calls Tryd.prog 39 #[.string s] W fun e w' => e = .returned (.bool true) ∧ W = w') := fun W => l01Bits_yes s W hs
  have HT := Lib.hid (l06Tree_yes a n cap xs k s w h hn hl hD hs x y ok hR)
  have hd : decide ((k : Int) < 0) = false := by simp
  clear h hn hD hs hR
  go_enter Tryd.func25, Tryd.ntmps25
  go_wp2_with fail
  refine (HV.out).mono ?_
  rintro e w1 ⟨rfl, rfl⟩
  go_wp2_with fail
  refine (HB.out _).mono ?_
  rintro e w2 ⟨rfl, rfl⟩
  go_wp2_with fail
  refine (HT.out).mono ?_
  rintro e w3 ⟨rfl, hb⟩
  go_wp2
  go_returns
  exact ⟨rfl, hb⟩
theorem specRollT_no (a : Option Addr) (n cap : Nat) (xs : List Int) (s : ByteArray) (w : World) (h : RO w.heap.size w a xs) (hn : xs.length = n) (hl : n ≤ 1048576) (hm : s.size ≤ maxLen) (hN : ¬ ((∃ k, DyP xs k) ∧ BitsP s)) :
    Calls Tryd.prog 25 #[.slice a n cap, .string s] w fun e w' => e = .returned (.tuple #[.int .i64 0, .int .i64 0, .bool false]) ∧ Below w.heap.size w w' := by
  by_cases hD : ∃ k, DyP xs k
  · have hs : ¬ BitsP s := fun z => hN ⟨hD, z⟩
    obtain ⟨k, hD⟩ := hD
    have HV := Lib.hid (l06Level_yes a n cap xs k w h hn hl hD)
    have HB : Hid (∀ W : World, Calls Tryd.prog 39 #[.string s] W fun e w' => e = .returned (.bool false) ∧ W = w') := fun W => l01Bits_no s W hm hs
    have hd : decide ((k : Int) < 0) = false := by simp
    clear h hn hD hs hN
    go_enter Tryd.func25, Tryd.ntmps25
    go_wp2_with fail
    refine (HV.out).mono ?_
    rintro e w1 ⟨rfl, rfl⟩
    go_wp2_with fail
    refine (HB.out _).mono ?_
    rintro e w2 ⟨rfl, rfl⟩
    go_wp2
    go_returns
    exact ⟨rfl, Below.refl _ _⟩
  · have HV := Lib.hid (l06Level_no a n cap xs w h hn hl hD)
    clear h hn hD hN
    go_enter Tryd.func25, Tryd.ntmps25
    go_wp2_with fail
    refine (HV.out).mono ?_
    rintro e w1 ⟨rfl, rfl⟩
    go_wp2
    go_returns
    exact ⟨rfl, Below.refl _ _⟩
/-- what both sides answer -/
theorem rollT_both (xs : List Int) (n : Nat) (s : ByteArray) (hn : xs.length = n) (hl : n ≤ 1048576) (hm : s.size ≤ maxLen) : ∃ (x y : Int) (ok : Bool),
    (∀ (W : World) (c : Option Addr) (k : Nat), RO W.heap.size W c xs → Tz W.heap.size W → Calls Tryd.prog 13 #[.slice c n k, .string s] W fun e w' => e = .returned (.tuple #[.int .i64 x, .int .i64 y, .bool ok]) ∧ Below W.heap.size W w') ∧
    (∀ (W : World) (c : Option Addr) (k : Nat), RO W.heap.size W c xs → Calls Tryd.prog 25 #[.slice c n k, .string s] W fun e w' => e = .returned (.tuple #[.int .i64 x, .int .i64 y, .bool ok]) ∧ Below W.heap.size W w') := by
  by_cases hD : ∃ k, DyP xs k
  · obtain ⟨k, hD⟩ := hD
    by_cases hs : BitsP s
    · exact ⟨_, _, _, fun W c q h hT => rollT_core c n q xs k s false W h hT hn hl hD _ _ _ (fun W => readerOf_yes s W hs) (.inl ⟨rfl, hs, rfl⟩), fun W c q h => specRollT_yes c n q xs k s W h hn hl hD hs _ _ _ rfl⟩
    · exact ⟨0, 0, false, fun W c q h hT => rollT_core c n q xs k s true W h hT hn hl hD 0 0 false (fun W => readerOf_no s W hm hs) (.inr ⟨rfl, rfl, rfl, rfl⟩), fun W c q h => specRollT_no c n q xs s W h hn hl hm fun z => hs z.2⟩
  · refine ⟨0, 0, false, fun W c q h hT => ?_, fun W c q h => specRollT_no c n q xs s W h hn hl hm fun z => hD z.1⟩
    by_cases hs : BitsP s
    · exact rollT_no c n q xs s false W h hT hn hl hD (fun W => readerOf_yes s W hs)
    · exact rollT_no c n q xs s true W h hT hn hl hD (fun W => readerOf_no s W hm hs)
theorem lawRT (a : Option Addr) (m cap : Nat) (zs : List Int) (s : ByteArray) (w : World) (h : RowIn .i64 w a m zs) (hm : s.size ≤ maxLen) (hT : Tz w.heap.size w) :
    Calls Tryd.prog 6 #[.slice a m cap, .string s] w fun e w' => e = .returned (.bool true) ∧ Below w.heap.size w w' := by
  by_cases hl : m ≤ 1048576
  · by_cases hl2 : s.size ≤ 1048576
    · obtain ⟨xs, hn, hr⟩ := h.ro
      have HR := Lib.hid hr
      have HN := Lib.hid hn
      have HT := Lib.hid hT
      obtain ⟨x, y, ok, hI, hS⟩ := rollT_both xs m s hn hl hm
      have HI := Lib.hid hI
      have HS := Lib.hid hS
      have t0 : decide ((1048576 : Int) < (m : Int)) = false := by simp; omega
      have t1 : decide ((1048576 : Int) < (s.size : Int)) = false := by simp; omega
      have h1 : (x != x) = false := by simp
      have h2 : (y != y) = false := by simp
      have h3 : (ok != ok) = false := by simp
      clear h hr hn hT hI hS
      go_enter Tryd.func6, Tryd.ntmps6
      go_wp2_with fail
      refine (copy_any a m cap xs w HR.out HN.out hl).mono ?_
      rintro e w1 ⟨b1, c1, rfl, r1, _, hb1⟩
      have HB1 := Lib.hid hb1
      clear hb1
      go_wp2_with fail
      refine (HS.out w1 b1 c1 r1).mono ?_
      rintro e w2 ⟨rfl, hb2⟩
      have HB2 := Lib.hid (HB1.out.trans (hb2.mono HB1.out.size))
      have HR2 := Lib.hid ((HR.out.below HB2.out).up HB2.out.size)
      clear r1 hb2 HB1
      go_wp2_with fail
      refine (copy_any a m cap xs _ HR2.out HN.out hl).mono ?_
      rintro e w3 ⟨b3, c3, rfl, r3, s3, hb3⟩
      have HB3 := Lib.hid (HB2.out.trans (hb3.mono HB2.out.size))
      have HS3 := Lib.hid s3
      clear hb3 s3 HR2
      go_wp2_with fail
      refine (HI.out w3 b3 c3 r3 (fun V hV => (HT.out.on HB3.out) V (hV.mono HB3.out.size))).mono ?_
      rintro e w4 ⟨rfl, hb4⟩
      have HB4 := Lib.hid (HB3.out.trans (hb4.mono HB3.out.size))
      have HS4 := Lib.hid (HS3.out.below (hb4.mono (Nat.le_refl _)))
      have z34 := hb4.size
      clear r3 hb4 HS3
      have HR5 := Lib.hid ((HR.out.below HB4.out).up HB4.out.size)
      go_wp2_with fail
      refine (copy_any a m cap xs _ HR5.out HN.out hl).mono ?_
      rintro e w6 ⟨b6, c6, rfl, _, s6, hb6⟩
      have HB6 := Lib.hid (HB4.out.trans (hb6.mono HB4.out.size))
      have HS6 := Lib.hid (HS4.out.below (hb6.mono (by omega)))
      have HE : Hid (Calls Tryd.prog 19 #[.slice b3 m c3, .slice b6 m c6] w6 fun e w' => e = .returned (.bool true) ∧ ∃ n, w' = w6.drewN n) := eq64_yes _ _ xs _ _ _ _ w6 HS6.out s6 (by rw [HN.out]; exact hl)
      clear hb6 s6
      go_wp2_with (go_at_call 19; with_reducible refine (HE.out).mono ?_; rintro e w7 ⟨rfl, m7, rfl⟩)
      go_ret
      exact ⟨rfl, below_drewN HB6.out m7⟩
    · unfold maxLen at hm
      have t0 : decide ((1048576 : Int) < (m : Int)) = false := by simp; omega
      have t1 : decide ((1048576 : Int) < (s.size : Int)) = true := by simp; omega
      clear h hT
      go_enter Tryd.func6, Tryd.ntmps6
      go_wp2
      go_ret
      exact ⟨rfl, Below.refl _ _⟩
  · have hle := h.len_le
    have t0 : decide ((1048576 : Int) < (m : Int)) = true := by simp; omega
    clear h hT
    go_enter Tryd.func6, Tryd.ntmps6
    go_wp2
    go_ret
    exact ⟨rfl, Below.refl _ _⟩
end Go.Proofs.YtamedggnkbhgeaaDoor
