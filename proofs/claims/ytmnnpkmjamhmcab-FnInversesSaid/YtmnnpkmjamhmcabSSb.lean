/- The copy of a slice of slices (laws.toInt64SS). -/
import Derived.Test.YtmnnpkmjamhmcabSSa
import Derived.Test.YtmnnpkmjamhmcabL7
import Derived.RegionTactic
namespace Go.Proofs.Ytmnnpkmjamhmcab
open Go.RowKit Go.PlainAid
set_option maxHeartbeats 1600000

theorem Try.info33 : (Try.prog.info? 33).map (fun i => (i.zero, i.size, i.bytes)) = some (some (.slice none 0 0), 1, 24) := by kernel_rfl
theorem SL.setb {base top : Nat} {w : World} {v : Value} {xs : List Int} (h : SL base top w v xs) {b j : Nat} (hb : b < base) (u : Value) : SL base top (w.setCell ⟨b, j, none⟩ u) v xs := by
  rcases h with h | ⟨g, cap, rfl, h1, h2, h3, h4, h5⟩
  · exact .inl h
  · exact .inr ⟨g, cap, rfl, h1, h2, h3, fun i hi => by rw [cell_otherD (addr_neD (by omega))]; exact h4 i hi, fun i => by simp only [World.frozen?_setCell]; exact h5 i⟩
def updV (us : Nat → Value) (j : Nat) (v : Value) : Nat → Value := fun d => if d = j then v else us d
theorem updV_same (us : Nat → Value) (j : Nat) (v : Value) : updV us j v j = v := by simp [updV]
theorem updV_ne (us : Nat → Value) {j d : Nat} (v : Value) (h : d ≠ j) : updV us j v d = us d := by simp [updV, h]
/-- rows that are put into block g, one after another, each in new memory -/
def PW (g m : Nat) (us : Nat → Value) (f : Nat → List Int) (j : Nat) (w wr : World) : Prop :=
  (w.heap.size ≤ g ∧ g < wr.heap.size) ∧ Below w.heap.size w wr ∧ (∀ d, d < m → wr.cell? ⟨g, d, none⟩ = some (us d)) ∧ (∀ d, wr.frozen? ⟨g, d, none⟩ = false) ∧ (∀ d, d < j → d < m → SL (g + 1) wr.heap.size wr (us d) (f d)) ∧
    ∀ d e, d < j → e < j → d ≠ e → (us d).ownBlock = none ∨ (us d).ownBlock ≠ (us e).ownBlock
theorem PW.far {g m : Nat} {us : Nat → Value} {f : Nat → List Int} {j : Nat} {w wr w1 : World} (h : PW g m us f j w wr) (hb : Below wr.heap.size wr w1) : PW g m us f j w w1 := by
  obtain ⟨⟨h0, h1⟩, h2, h3, h4, h5, h6⟩ := h
  have hz := hb.size
  exact ⟨⟨h0, by omega⟩, h2.trans (hb.mono h2.size), fun d hd => (hb.cell (p := ⟨g, d, none⟩) h1).trans (h3 d hd), fun d => (hb.frozen (p := ⟨g, d, none⟩) h1).trans (h4 d), fun d hd hm => ((h5 d hd hm).below hb).up hz, h6⟩
theorem PW.put {g m : Nat} {us : Nat → Value} {f : Nat → List Int} {j : Nat} {w wr : World} {v : Value} {T : Nat} (h : PW g m us f j w wr) (hj : j < m) (hs : SL T wr.heap.size wr v (f j)) (hT : g < T) (ho : ∀ d, d < j → d < m → SL (g + 1) T wr (us d) (f d)) : PW g m (updV us j v) f (j + 1) w (wr.setCell ⟨g, j, none⟩ v) := by
  obtain ⟨⟨h0, h1⟩, h2, h3, h4, h5, h6⟩ := h
  have hz : (wr.setCell ⟨g, j, none⟩ v).heap.size = wr.heap.size := by simp [World.setCell]
  refine ⟨⟨h0, by omega⟩, h2.setCell (p := ⟨g, j, none⟩) h0 _, fun d hd => ?_, fun d => by rw [World.frozen?_setCell]; exact h4 d, fun d hd hm => ?_, fun d e hd he hne => ?_⟩
  · by_cases e : d = j
    · subst e
      rw [updV_same]
      exact World.cell?_setCell_same wr _ _ (h3 d hd)
    · rw [updV_ne us v e, cell_otherD (addr_neD (by omega))]
      exact h3 d hd
  · rw [hz]
    by_cases e : d = j
    · subst e
      rw [updV_same]
      exact ((SL.lower7 hs (by omega) : SL (g + 1) wr.heap.size wr v (f d)).setb (by omega) _)
    · rw [updV_ne us v e]
      exact (h5 d (by omega) hm).setb (by omega) _
  · have hv := hs.in
    by_cases e1 : d = j
    · subst e1
      rw [updV_same, updV_ne us v (Ne.symm hne)]
      have hoe := (ho e (by omega) (by omega)).in
      cases hb : v.ownBlock with
      | none => exact .inl rfl
      | some q =>
        right
        intro hh
        have x1 := hv q hb
        have x2 := hoe q hh.symm
        omega
    · rw [updV_ne us v e1]
      by_cases e2 : e = j
      · subst e2
        rw [updV_same]
        have hod := (ho d (by omega) (by omega)).in
        cases hb : (us d).ownBlock with
        | none => exact .inl rfl
        | some q =>
          right
          intro hh
          have x1 := hv q hh.symm
          have x2 := hod q hb
          omega
      · rw [updV_ne us v e2]
        exact h6 d e (by omega) (by omega) hne
theorem PW.lw {g m c : Nat} {us : Nat → Value} {f : Nat → List Int} {w wr : World} (h : PW g m us f m w wr) (hc : m ≤ c) : LW w.heap.size wr.heap.size wr (.slice (some ⟨g, 0, none⟩) m c) m f := by
  obtain ⟨⟨h0, h1⟩, h2, h3, h4, h5, h6⟩ := h
  refine .inr ⟨g, c, us, rfl, hc, ⟨h0, h1⟩, Nat.le_refl _, h3, fun d hd => SL.lower7 (h5 d hd hd) (by omega), fun d hd e => ?_, fun d e hd he hne => h6 d e hd he hne⟩
  have := (h5 d hd hd).in g e
  omega
/-- behind make -/
theorem PW.made {w w3 : World} {m c : Nat} {f : Nat → List Int} {e : TypeId} {xs : List Value} (h : w3.ownsRow w.heap.size e 1 (.slice (some ⟨w.heap.size, 0, none⟩) m c) m xs) (hx : xs.length = m) (hb : Below w.heap.size w w3) (hz : w.heap.size < w3.heap.size) : PW w.heap.size m (fun d => xs.getD d undef) f 0 w w3 := by
  refine ⟨⟨Nat.le_refl _, hz⟩, hb, fun d hd => ?_, fun d => World.ownsRow.frozenAt h d, fun d hd => by omega, fun d e hd => by omega⟩
  rw [World.ownsRow.cellAt h d (by omega)]
  show xs[d]? = some (xs.getD d undef)
  rw [List.getD_eq_getElem?_getD, List.getElem?_eq_getElem (by omega)]
  rfl
theorem copySS_any (a : Option Addr) (m cap : Nat) (f : Nat → List Int) (w : World) (h : RR w.heap.size w a m f) (hm : m + szl f m ≤ 1048576) :
    Calls Try.prog 29 #[.slice a m cap] w fun e w' => ∃ b c, e = .returned (.slice b m c) ∧ m ≤ c ∧ RR w'.heap.size w' b m f ∧ LW w.heap.size w'.heap.size w' (.slice b m c) m f ∧ Below w.heap.size w w' := by
  obtain ⟨i0, hi, hz0, hz1, hz2⟩ := info_parts Try.info33
  have HR := Lib.hid h
  have HL : Hid (∀ d, d < m → (f d).length ≤ 1048576) := fun d hd => by have := szl_at (f := f) hd; omega
  have hmm : m ≤ 1048576 := by omega
  clear h hm
  go_enter Try.func29, Try.ntmps29
  go_wp2_with (at_make; refine wpList_make_full _ rfl _ _ 34 rfl w.heap.size 33 i0 _ 1 Try.underlying34 hi hz0 hz1 _ _ _ _ m rfl rfl rfl rfl (by rw [hz2]; omega) (by unfold maxLen; omega) (Nat.le_refl _) ?_; intro w3 hown hgrow)
  have HP3 := Lib.hid (PW.made (f := f) hown (by simpa using hown.1) ((Below.refl w.heap.size w).grown hgrow (Nat.le_refl _) (by simp)) (own_lt hown))
  clear hown hgrow
  go_loopw [4] (fun iv wr => ∃ (j : Nat) (us : Nat → Value), j ≤ m ∧ iv = .int .i64 j ∧ Hid (PW w.heap.size m us f j w wr)) (fun iv _ => m - (intOf iv).toNat)
  case atStart => exact ⟨0, _, Nat.zero_le _, rfl, HP3⟩
  case round =>
    obtain ⟨j, us, hj, rfl, HP⟩ := hrel
    clear HP3
    by_cases hlt : j < m
    · obtain ⟨ga, oa, b, c, rfl, hga, hca, hlc, hro⟩ := HR.out j hlt
      have HO := Lib.hid hro
      have hB := HP.out.2.1
      have hz := hB.size
      replace hca : wr.cell? ⟨ga, oa + j, none⟩ = _ := (hB.cell (p := ⟨ga, oa + j, none⟩) hga).trans hca
      obtain ⟨n, hn⟩ : ∃ n, (f j).length = n := ⟨_, rfl⟩
      have HN := Lib.hid hn
      have hn1 := HL.out j hlt
      rw [hn] at hca hlc hn1
      have HBB := Lib.hid hB
      clear hn hro hB
      go_wp2_with fail
      refine (copy7_any b n c (f j) wr ((HO.out.below HP.out.2.1).up HP.out.2.1.size) HN.out hn1).mono ?_
      rintro e W1 ⟨b1, c1, rfl, _, _, hs, hb⟩
      have HP1 := Lib.hid (HP.out.far hb)
      have hf := HP1.out.2.2.2.1 j
      have hcj := HP1.out.2.2.1 j hlt
      have HPn : Hid (PW w.heap.size m (updV us j (.slice b1 n c1)) f (j + 1) w (W1.setCell ⟨w.heap.size, j, none⟩ (.slice b1 n c1))) := HP1.out.put hlt hs HP.out.1.2 (fun d h1 h2 => (HP.out.2.2.2.2.1 d h1 h2).below hb)
      clear hs hb HP HP1 hca HO HBB
      go_wp2
      go_roundw
      case rel => exact ⟨j + 1, _, by omega, by go_num, HPn⟩
      case measure => simp [intOf]; omega
    · obtain rfl : j = m := by omega
      go_wp2
      go_ret
      have hl := HP.out.lw (Nat.le_refl _)
      obtain ⟨a', c', he, hc', hr⟩ := hl.rr
      cases he
      exact ⟨_, _, rfl, hc', hr, hl, HP.out.2.1⟩
end Go.Proofs.Ytmnnpkmjamhmcab
