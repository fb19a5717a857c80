/- The law FnExactReadFraction. -/
import Derived.Test.YtpnifnpbolieoabDoorReadFracS
import Derived.Test.YtpnifnpbolieoabDoorReadFracN
namespace Go.Proofs.YtpnifnpbolieoabDoor
open Go.RowKit Go.PlainAid
set_option maxHeartbeats 1600000

def GivesFr (f : FuncId) (s : ByteArray) (x y : Int) (ok : Bool) (W : World) : Prop := Calls Tryd.prog f #[.string s] W fun e w' => e = .returned (.tuple #[.agg #[.int .i64 x, .int .i64 y], .bool ok]) ∧ Below W.heap.size W w'
def GreatP (s : ByteArray) (n : Int) (ok : Bool) : Prop := (ok = true ∧ Part n ∧ s = decS n) ∨ (ok = false ∧ ∀ k, Part k → s ≠ decS k)
theorem ba_eta (s : ByteArray) : (⟨s.data.toList.toArray⟩ : ByteArray) = s := ba_ext (by simp)
theorem vf_part {n d : Int} (h : VF n d) : Part n ∧ Part d := ⟨⟨h.2.2.1, h.2.2.2.1⟩, by have := h.1; omega, h.2.1⟩
theorem decS_inj {m n : Int} (hm : I64 m) (hn : I64 n) (h : decS m = decS n) : m = n := itoa_inj m n hm.1 hm.2 hn.1 hn.2 (by rw [← decS_list m, ← decS_list n, h])
theorem decS_noslash (n : Int) : NoSl (Lib.itoa n) := by
  intro b hb e
  subst e
  have := itoa_bytes n 47 hb
  have e47 : (47 : UInt8).toNat = 47 := rfl
  omega
theorem vf_one {n : Int} (h : Part n) : VF n 1 := ⟨by omega, by omega, h.1, h.2, by simp [gcdI]⟩
theorem great_text {p : ByteArray} (hs : p.size ≤ 1048576) (W : World) (h : ∀ k, Part k → p ≠ decS k) : Calls Tryd.prog 84 #[.string p] W fun e w' => ∃ y, e = .returned (.tuple #[.int .i64 y, .bool false]) ∧ Below W.heap.size W w' := great_no p W hs h
theorem great_is {p : ByteArray} {n : Int} (hn : Part n) (hp : p = decS n) (W : World) : Calls Tryd.prog 84 #[.string p] W fun e w' => e = .returned (.tuple #[.int .i64 n, .bool true]) ∧ Below W.heap.size W w' := by
  subst hp
  exact great_yes n W hn

/-- the two texts, and what they are -/
theorem frac_pair (s : ByteArray) (hs : s.size ≤ 1048576) (w : World) (ht : Tabs w) (hm : MaxL w) : ∃ x y ok, (∀ W, Below w.heap.size w W → GivesFr 61 s x y ok W) ∧ ∀ W, Below w.heap.size w W → GivesFr 28 s x y ok W := by
  have hl : s.data.toList.length = s.size := Array.length_toList
  have byte : ∀ j, (h : j < s.size) → s.data.toList[j]'(by omega) = s[j]'h := fun j h => by rw [Array.getElem_toList]; rfl
  rcases index_slash s.data.toList with ⟨hi, hno⟩ | ⟨i, hi, hil, hno, h47⟩
  · have hN : ∀ j, (h : j < s.size) → j < s.size → (s[j]'h).toNat ≠ 47 := fun j h _ e => by
      refine hno (s[j]'h) ?_ ?_
      · rw [← byte j h]
        exact List.getElem_mem _
      · exact UInt8.toNat_inj.1 e
    have hcut : Lib.cut s.data.toList [47] = (s.data.toList, [], false) := by unfold Lib.cut; rw [if_neg (by omega)]
    have HC : ∀ V, Below w.heap.size w V → Hid (∀ W, Below V.heap.size V W → Calls Tryd.prog 62 #[.string s, .string ⟨#[47]⟩] W fun e w' => e = .returned (.tuple #[.string s, .string ⟨#[]⟩, .bool false]) ∧ Below W.heap.size W w') := fun V hV W hW => by
      have h := cut_call s W hs ((hm.on hV).on hW)
      rw [hcut] at h
      simp only [ba_eta] at h
      exact h
    have HQ : ∀ V, Below w.heap.size w V → Hid (∀ W, Below V.heap.size V W → Calls Tryd.prog 50 #[.string ⟨#[49]⟩] W fun e w' => e = .returned (.tuple #[.int .i64 1, .bool true]) ∧ Below W.heap.size W w') := fun V hV W hW => by
      rw [← decS_one]
      exact whole_yes 1 W ⟨by decide, by decide⟩ ((ht.on hV).on hW)
    obtain ⟨n, o, hw⟩ := whole_any s
    have HP : ∀ V, Below w.heap.size w V → Hid (∀ W, Below V.heap.size V W → Calls Tryd.prog 50 #[.string s] W fun e w' => e = .returned (.tuple #[.int .i64 n, .bool o]) ∧ Below W.heap.size W w') := fun V hV W hW => whole_call hw hs (ht.on hV) hW
    by_cases hp : Part n ∧ s = decS n
    · obtain ⟨h1, h2⟩ := hp
      have ho : o = true := by
        rcases hw with ⟨rfl, _⟩ | ⟨_, _, h3⟩
        · rfl
        · exact absurd h2 (h3 n h1.i64)
      subst ho
      refine ⟨n, 1, true, fun W hW => ?_, fun W hW => ?_⟩
      · exact specRF_okN s s s n 1 s.size W (Nat.le_refl _) hs hN rfl (vf_one h1) ((if_pos rfl).trans h2.symm) (fun V => great_is h1 h2 V)
      · exact readFrac_ok s s ⟨#[]⟩ ⟨#[49]⟩ n 1 false W rfl (vf_one h1) (fun e => by cases e.1) (HC W hW) (HP W hW) (HQ W hW)
    · have hg : ∀ k, Part k → s ≠ decS k := fun k hk e => by
        rcases hw with ⟨_, h3, h4⟩ | ⟨_, _, h3⟩
        · have := decS_inj h3 hk.i64 (h4.symm.trans e)
          subst this
          exact hp ⟨hk, h4⟩
        · exact h3 k hk.i64 e
      refine ⟨0, 0, false, fun W hW => specRF_n1N s s s n 1 s.size W (Nat.le_refl _) hs hN rfl (fun V => great_text hs V hg), fun W hW => ?_⟩
      rcases hw with ⟨rfl, h3, h4⟩ | ⟨rfl, rfl, h3⟩
      · exact readFrac_bad s s ⟨#[]⟩ ⟨#[49]⟩ n 1 false W rfl (fun v => hp ⟨(vf_part v).1, h4⟩) (HC W hW) (HP W hW) (HQ W hW)
      · exact readFrac_n1t s s ⟨#[]⟩ ⟨#[49]⟩ 0 1 false W rfl (HC W hW) (HP W hW) (HQ W hW)
  · have his : i < s.size := by omega
    have hN : ∀ j, (h : j < s.size) → j < i → (s[j]'h).toNat ≠ 47 := fun j h hj e => by
      refine hno (s[j]'h) ?_ ?_
      · rw [← byte j h, List.mem_iff_getElem]
        exact ⟨j, by rw [List.length_take]; omega, by rw [List.getElem_take]⟩
      · exact UInt8.toNat_inj.1 e
    have h47' : (s[i]'his).toNat = 47 := by
      have := (List.getElem?_eq_some_iff.1 h47).2
      rw [byte i his] at this
      rw [this]
      rfl
    obtain ⟨p, hP⟩ : ∃ p, s.extract 0 i = p := ⟨_, rfl⟩
    obtain ⟨q, hQ⟩ : ∃ q, s.extract (i + 1) s.size = q := ⟨_, rfl⟩
    have hcut := cut_at s i hi
    rw [hP, hQ] at hcut
    have hps : p.size ≤ 1048576 := by rw [← hP, ByteArray.size_extract]; omega
    have hqs : q.size ≤ 1048576 := by rw [← hQ, ByteArray.size_extract]; omega
    have hsplit : s = p ++ ⟨#[47]⟩ ++ q := by
      apply ba_ext
      have e1 : p.data.toList = s.data.toList.take i := by rw [← hP, extract_list]; simp
      have e2 : q.data.toList = s.data.toList.drop (i + 1) := by rw [← hQ, extract_list, List.take_of_length_le (by rw [List.length_drop]; omega)]
      rw [Go.Joins.data_append, Go.Joins.data_append, e1, e2]
      show _ = _ ++ [47] ++ _
      rw [List.append_assoc, List.singleton_append]
      have h3 := (List.getElem?_eq_some_iff.1 h47).2
      rw [← h3, ← List.drop_eq_getElem_cons hil, List.take_append_drop]
    have HC : ∀ V, Below w.heap.size w V → Hid (∀ W, Below V.heap.size V W → Calls Tryd.prog 62 #[.string s, .string ⟨#[47]⟩] W fun e w' => e = .returned (.tuple #[.string p, .string q, .bool true]) ∧ Below W.heap.size W w') := fun V hV W hW => by
      have h := cut_call s W hs ((hm.on hV).on hW)
      rw [hcut] at h
      simp only [ba_eta] at h
      exact h
    obtain ⟨n, o1, hw1⟩ := whole_any p
    obtain ⟨d, o2, hw2⟩ := whole_any q
    have HP : ∀ V, Below w.heap.size w V → Hid (∀ W, Below V.heap.size V W → Calls Tryd.prog 50 #[.string p] W fun e w' => e = .returned (.tuple #[.int .i64 n, .bool o1]) ∧ Below W.heap.size W w') := fun V hV W hW => whole_call hw1 hps (ht.on hV) hW
    have HQ : ∀ V, Below w.heap.size w V → Hid (∀ W, Below V.heap.size V W → Calls Tryd.prog 50 #[.string q] W fun e w' => e = .returned (.tuple #[.int .i64 d, .bool o2]) ∧ Below W.heap.size W w') := fun V hV W hW => whole_call hw2 hqs (ht.on hV) hW
    have none_of : ∀ {t : ByteArray} {k : Int} {o : Bool}, WholeP t k o → ¬ (Part k ∧ t = decS k) → ∀ j, Part j → t ≠ decS j := by
      intro t k o h hn j hj e
      rcases h with ⟨_, h3, h4⟩ | ⟨_, _, h3⟩
      · have := decS_inj h3 hj.i64 (h4.symm.trans e)
        subst this
        exact hn ⟨hj, h4⟩
      · exact h3 j hj.i64 e
    -- what the program answers where the fraction is none
    have implNo : ¬ (o1 = true ∧ o2 = true ∧ VF n d ∧ d ≠ 1) → ∀ W, Below w.heap.size w W → GivesFr 28 s 0 0 false W := fun hno W hW => by
      cases o1 with
      | false =>
        cases o2 with
        | true => exact readFrac_n1t s p q q n d true W rfl (HC W hW) (HP W hW) (HQ W hW)
        | false => exact readFrac_n1f s p q q n d true W rfl (HC W hW) (HP W hW) (HQ W hW)
      | true =>
        cases o2 with
        | false => exact readFrac_n2 s p q q n d true W rfl (HC W hW) (HP W hW) (HQ W hW)
        | true =>
          by_cases hv : VF n d
          · have hd1 : d = 1 := Classical.byContradiction fun e => hno ⟨rfl, rfl, hv, e⟩
            exact readFrac_one s p q q n d true W rfl hv ⟨rfl, hd1⟩ (HC W hW) (HP W hW) (HQ W hW)
          · exact readFrac_bad s p q q n d true W rfl hv (HC W hW) (HP W hW) (HQ W hW)
    by_cases hp : Part n ∧ p = decS n
    · by_cases hq : Part d ∧ q = decS d
      · have ho1 : o1 = true := by
          rcases hw1 with ⟨h, _⟩ | ⟨_, _, h3⟩
          · exact h
          · exact absurd hp.2 (h3 n hp.1.i64)
        have ho2 : o2 = true := by
          rcases hw2 with ⟨h, _⟩ | ⟨_, _, h3⟩
          · exact h
          · exact absurd hq.2 (h3 d hq.1.i64)
        subst ho1 ho2
        by_cases hv : VF n d
        · by_cases hd1 : d = 1
          · have htx : textF n d ≠ s := by
              intro e
              have h1 : textF n d = decS n := if_pos hd1
              rw [h1] at e
              have hm : (47 : UInt8) ∈ Lib.itoa n := by
                rw [← decS_list, e]
                exact List.mem_of_getElem? h47
              exact decS_noslash n 47 hm rfl
            exact ⟨0, 0, false, fun W hW => specRF_textS s p q n d i W (Nat.le_of_lt his) hs hN hP his h47' hQ hv htx (fun V => great_is hp.1 hp.2 V) (fun V => great_is hq.1 hq.2 V), implNo (fun h => h.2.2.2 hd1)⟩
          · have htx : textF n d = s := by
              have h1 : textF n d = decS n ++ ⟨#[47]⟩ ++ decS d := if_neg hd1
              rw [h1, hsplit, ← hp.2, ← hq.2]
            exact ⟨n, d, true, fun W hW => specRF_okS s p q n d i W (Nat.le_of_lt his) hs hN hP his h47' hQ hv htx (fun V => great_is hp.1 hp.2 V) (fun V => great_is hq.1 hq.2 V), fun W hW => readFrac_ok s p q q n d true W rfl hv (fun e => hd1 e.2) (HC W hW) (HP W hW) (HQ W hW)⟩
        · exact ⟨0, 0, false, fun W hW => specRF_vfS s p q n d i W (Nat.le_of_lt his) hs hN hP his h47' hQ hv (fun V => great_is hp.1 hp.2 V) (fun V => great_is hq.1 hq.2 V), implNo (fun h => hv h.2.2.1)⟩
      · refine ⟨0, 0, false, fun W hW => specRF_n2S s p q n d i W (Nat.le_of_lt his) hs hN hP his h47' hQ (fun V => great_is hp.1 hp.2 V) (fun V => great_text hqs V (none_of hw2 hq)), implNo (fun h => ?_)⟩
        rcases hw2 with ⟨_, _, h4⟩ | ⟨h5, _⟩
        · exact hq ⟨(vf_part h.2.2.1).2, h4⟩
        · rw [h.2.1] at h5
          cases h5
    · have hno1 : ¬ (o1 = true ∧ o2 = true ∧ VF n d ∧ d ≠ 1) := fun h => by
        rcases hw1 with ⟨_, _, h4⟩ | ⟨h5, _⟩
        · exact hp ⟨(vf_part h.2.2.1).1, h4⟩
        · rw [h.1] at h5
          cases h5
      by_cases hq : Part d ∧ q = decS d
      · exact ⟨0, 0, false, fun W hW => specRF_n1S s p q n d i W (Nat.le_of_lt his) hs hN hP his h47' hQ (fun V => great_text hps V (none_of hw1 hp)) (fun V => great_is hq.1 hq.2 V), implNo hno1⟩
      · exact ⟨0, 0, false, fun W hW => specRF_n3S s p q n d i W (Nat.le_of_lt his) hs hN hP his h47' hQ (fun V => great_text hps V (none_of hw1 hp)) (fun V => great_text hqs V (none_of hw2 hq)), implNo hno1⟩

theorem specRFrac_call (s : ByteArray) (x y : Int) (ok : Bool) (w w0 : World) (hw : Below w0.heap.size w0 w) (HS : Hid (∀ W, Below w0.heap.size w0 W → GivesFr 61 s x y ok W)) :
    Calls Tryd.prog 27 #[.string s] w fun e w' => e = .returned (.tuple #[.agg #[.int .i64 x, .int .i64 y], .bool ok]) ∧ Below w.heap.size w w' := by
  have HB0 : Hid (Below w.heap.size w (w.alloc (.cells #[.int .i64 0, .int .i64 0] 39)) ∧ C2 (w.alloc (.cells #[.int .i64 0, .int .i64 0] 39)) w.heap.size (.int .i64 0) (.int .i64 0)) := ⟨(Below.refl _ _).alloc (Nat.le_refl _) _, C2.new w _ _ _⟩
  have HS2 : Hid (∀ W, Below w.heap.size w W → GivesFr 61 s x y ok W) := fun W h => HS.out W (hw.trans (h.mono hw.size))
  clear hw HS
  go_enter Tryd.func27, Tryd.ntmps27
  go_wp2_with fail
  refine (HS2.out _ HB0.out.1).mono ?_
  rintro e w1 ⟨rfl, hb⟩
  have B1 : Hid (Below w.heap.size w w1 ∧ C2 w1 w.heap.size (.int .i64 0) (.int .i64 0)) := ⟨HB0.out.1.trans (hb.mono HB0.out.1.size), HB0.out.2.below hb HB0.out.2.lt⟩
  clear hb HB0 HS2
  obtain ⟨⟨c5, d5⟩, f5, f6⟩ := B1.out.2
  have P := C2.put ⟨⟨c5, d5⟩, f5, f6⟩ (.int .i64 x) (.int .i64 y)
  unfold put2 at P
  obtain ⟨p0, p1⟩ := P
  go_wp2
  exact bodyPost_ret (v := .tuple #[.agg #[.int .i64 x, .int .i64 y], .bool ok]) (by simp [results, Tryd.results27, go_sem, p0, p1]) rfl ⟨rfl, below_put2 B1.out.1 (Nat.le_refl _) _ _⟩
theorem lawRFrac_core (s : ByteArray) (x y : Int) (ok : Bool) (w : World) (hs : s.size ≤ 1048576) (HS : Hid (∀ W, Below w.heap.size w W → GivesFr 61 s x y ok W)) (HI : Hid (∀ W, Below w.heap.size w W → GivesFr 28 s x y ok W)) :
    Calls Tryd.prog 8 #[.string s] w fun e w' => e = .returned (.bool true) ∧ Below w.heap.size w w' := by
  have t0 : decide ((1048576 : Int) < (s.size : Int)) = false := by simp; omega
  have hne2 : (ok != ok) = false := by simp
  go_enter Tryd.func8, Tryd.ntmps8
  go_wp2_with fail
  refine (specRFrac_call s x y ok w w (Below.refl _ _) HS.out).mono ?_
  rintro e w1 ⟨rfl, hb1⟩
  have z1 := hb1.size
  go_wp2_with fail
  refine (HI.out _ (hb1.alloc z1 _)).mono ?_
  rintro e w2 ⟨rfl, hb⟩
  obtain ⟨b2, z2, c2, d2⟩ := keep2 (b := w1.heap.size) (x := .int .i64 x) (y := .int .i64 y) (hb1.alloc hb1.size _) hb hb1.size (by simp) (by simp [go_sem]) (by simp [go_sem])
  clear hb hb1
  go_wp2_with fail
  refine (eqFrac_yes _ _ _).mono ?_
  rintro e w3 ⟨rfl, hb⟩
  go_wp2
  go_ret
  exact ⟨rfl, (b2.alloc (by omega) _).trans (hb.mono (by simp; omega))⟩
theorem lawRFrac (s : ByteArray) (w : World) (_hmx : s.size ≤ maxLen) (ht : Tabs w) (hm : MaxL w) :
    Calls Tryd.prog 8 #[.string s] w fun e w' => e = .returned (.bool true) ∧ Below w.heap.size w w' := by
  by_cases hs : s.size ≤ 1048576
  · obtain ⟨x, y, ok, h1, h2⟩ := frac_pair s hs w ht hm
    exact lawRFrac_core s x y ok w hs h1 h2
  · have t0 : decide ((1048576 : Int) < (s.size : Int)) = true := by simp; omega
    clear ht hm
    go_enter Tryd.func8, Tryd.ntmps8
    go_wp2
    go_ret
    exact ⟨rfl, Below.refl _ _⟩
end Go.Proofs.YtpnifnpbolieoabDoor
