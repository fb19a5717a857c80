/- The bits that are selected: ShrinkBits in the code and in the specification, and the law. -/
import Derived.Test.YtgpcacbjmjpdnabBuil
import Derived.Test.YtgpcacbjmjpdnabShelf
import Derived.Test.YtgpcacbjmjpdnabTab
import Derived.Test.YtgpcacbjmjpdnabLawV
namespace Go.Proofs.Ytgpcacbjmjpdnab
open Go.RowKit Go.PlainAid
set_option maxHeartbeats 1000000

theorem bs_string (B b : Nat) (l : List Int) (w : World) (h : BS B b l w) (hBw : B ≤ w.heap.size) (hl : ∀ x ∈ l, 0 ≤ x ∧ x ≤ 255) :
    Calls Try.prog 60 #[.pointer (some ⟨b, 0, none⟩)] w fun e w' => e = .returned (.string (strOfNums l)) ∧ Below B w w' := by
  have e : l.map (Value.int .u8) = Lib.byteCells (l.map fun n => UInt8.ofNat n.toNat) := by
    unfold Lib.byteCells
    rw [List.map_map]
    apply List.map_congr_left
    intro x hx
    have := hl x hx
    show Value.int .u8 x = Value.int .u8 ((UInt8.ofNat x.toNat).toNat : Int)
    congr 1
    simp
    omega
  unfold BS at h
  rw [e] at h
  exact Try.Builder_String_any B b _ w h hBw
theorem bs_new (w : World) : BS w.heap.size w.heap.size [] (w.alloc (.cells #[.pointer none, .slice none 0 0] 75)) :=
  .inl ⟨Nat.le_refl _, .slice none 0 0, heap_alloc_new w _, ⟨by simp, .inl ⟨rfl, rfl⟩⟩, by simp [Value.ownBlock]⟩
/-- the selected bits before k -/
def shr (s t : ByteArray) : Nat → List Int
  | 0 => []
  | k + 1 => if bt s k = 49 then shr s t k ++ [bt t k] else shr s t k
theorem shr_yes {s t : ByteArray} {k : Nat} (h : bt s k = 49) : shr s t (k + 1) = shr s t k ++ [bt t k] := by simp [shr, h]
theorem shr_no {s t : ByteArray} {k : Nat} (h : ¬ bt s k = 49) : shr s t (k + 1) = shr s t k := by simp [shr, h]
theorem shr_length (s t : ByteArray) : ∀ k, (shr s t k).length ≤ k := by
  intro k
  induction k with
  | zero => simp [shr]
  | succ k ih =>
    simp only [shr]
    split
    · rw [List.length_append, List.length_singleton]; omega
    · omega
theorem shr_in (s t : ByteArray) (h : AllIn 48 49 t) : ∀ k, k ≤ t.size → ∀ x ∈ shr s t k, 0 ≤ x ∧ x ≤ 255 := by
  intro k
  induction k with
  | zero => intro _ x hx; simp [shr] at hx
  | succ k ih =>
    intro hk x hx
    simp only [shr] at hx
    split at hx
    · rcases List.mem_append.1 hx with hx | hx
      · exact ih (by omega) x hx
      · have h1 := h k (by omega)
        rw [get_bt t k (by omega)] at h1
        simp at hx
        subst hx
        omega
    · exact ih (by omega) x hx
set_option maxRecDepth 8000 in
theorem shrink_yes (s t : ByteArray) (w : World) (hs : BitsP s) (ht : BitsP t) (hst : s.size = t.size) :
    Calls Try.prog 37 #[.string s, .string t] w fun e w' => e = .returned (.tuple #[.string (strOfNums (shr s t t.size)), .bool true]) ∧ Below w.heap.size w w' := by
  have h4 := ht.len
  have HA : Hid (∀ W : World, Calls Try.prog 65 #[.string s] W fun e w' => e = .returned (.bool true) ∧ Below W.heap.size W w') := fun W => isBits_yes s W hs
  have HB : Hid (∀ W : World, Calls Try.prog 66 #[.string t, .int .i64 s.size] W fun e w' => e = .returned (.bool true) ∧ Below W.heap.size W w') := fun W => isBitsT_b t s.size true W (by unfold maxLen; omega) (decide_eq_true ⟨by omega, ht⟩)
  have HI : Hid (∀ k, k ≤ t.size → ∀ x ∈ shr s t k, 0 ≤ x ∧ x ≤ 255) := shr_in s t ht.2
  have HL : Hid (∀ k, (shr s t k).length ≤ k) := shr_length s t
  have HSt := Lib.hid hst
  clear hs ht hst
  go_enter Try.func37, Try.ntmps37
  go_wp2_with (first | (go_at_call 65; refine (HA.out _).mono ?_; rintro e w1 ⟨rfl, hb1⟩) | (go_at_call 66; refine (HB.out _).mono ?_; rintro e w2 ⟨rfl, hb2⟩))
  have hz : w.heap.size ≤ w2.heap.size := Nat.le_trans hb1.size hb2.size
  have B2 := hb1.trans (hb2.mono hb1.size)
  have S3 := bs_new w2
  have B3 := (B2.alloc hz (.cells #[.pointer none, .slice none 0 0] 75))
  clear hb1 hb2 B2
  go_loopw [7, 20] (fun _ kv wr => ∃ k : Nat, k ≤ t.size ∧ kv = .int .i64 k ∧ BS w2.heap.size w2.heap.size (shr s t k) wr ∧ Below w.heap.size w wr ∧ w2.heap.size ≤ wr.heap.size) (fun _ kv _ => t.size - (intOf kv).toNat)
  case atStart => exact ⟨0, Nat.zero_le _, rfl, S3, B3, by simp⟩
  case round =>
    obtain ⟨k, hk, rfl, S, B, hzr⟩ := hrel
    clear S3 B3
    by_cases hlt : k < t.size
    · have hks : k < s.size := by rw [HSt.out]; exact hlt
      have e1 := get_bt s k hks
      have e2 := get_bt t k hlt
      have hl := HL.out k
      by_cases hx : bt s k = 49
      · have hc : (((s[k]'hks).toNat : Int) == 49) = true := by rw [e1, hx]; rfl
        have HS := Lib.hid (shr_yes (t := t) hx)
        have hw : Hid (∀ W : World, BS w2.heap.size w2.heap.size (shr s t k) W → w2.heap.size ≤ W.heap.size → Calls Try.prog 58 #[.pointer (some ⟨w2.heap.size, 0, none⟩), .int .u8 ((t[k]'hlt).toNat : Nat)] W fun e w' => e = .returned .nilIface ∧ BS w2.heap.size w2.heap.size (shr s t k ++ [bt t k]) w' ∧ Below w2.heap.size W w') := fun W h1 h2 => by
          rw [e2]
          exact writeByte_any _ _ _ _ W h1 (by omega) h2
        have HX := Lib.hid (And.intro S B)
        clear e1 e2 hx S B
        go_wp2_with (go_at_call 58; refine (hw.out _ HX.out.1 hzr).mono ?_; rintro e w4 ⟨rfl, hS4, hb4⟩; have S4 := Lib.hid hS4; have B4 := Lib.hid (HX.out.2.trans (hb4.mono hz)); have hz4 := hb4.size; clear hS4 hb4)
        go_roundw
        case rel => exact ⟨k + 1, by omega, by go_num, by rw [HS.out]; exact S4.out, B4.out, by omega⟩
        case measure => simp [intOf]; omega
      · have hc : (((s[k]'hks).toNat : Int) == 49) = false := by rw [e1, beq_eq_false_iff_ne]; exact hx
        have HS := Lib.hid (shr_no (t := t) hx)
        clear e1 e2 hx
        go_wp2
        go_roundw
        case rel => exact ⟨k + 1, by omega, by go_num, by rw [HS.out]; exact S, B, hzr⟩
        case measure => simp [intOf]; omega
    · obtain rfl : k = t.size := by omega
      have HX := Lib.hid (And.intro S B)
      clear S B
      go_wp2_with (go_at_call 60; refine (bs_string _ _ _ _ HX.out.1 hzr (HI.out _ (Nat.le_refl _))).mono ?_; rintro e w4 ⟨rfl, hb4⟩)
      go_ret2
      exact ⟨rfl, HX.out.2.trans (hb4.mono hz)⟩
theorem shrink_noA (s t : ByteArray) (w : World) (hm : s.size ≤ maxLen) (hs : ¬ BitsP s) :
    Calls Try.prog 37 #[.string s, .string t] w fun e w' => e = .returned (.tuple #[.string ⟨#[]⟩, .bool false]) ∧ Below w.heap.size w w' := by
  have HA : Hid (∀ W : World, Calls Try.prog 65 #[.string s] W fun e w' => e = .returned (.bool false) ∧ Below W.heap.size W w') := fun W => isBits_no s W hm hs
  clear hs
  go_enter Try.func37, Try.ntmps37
  go_wp2_with (go_at_call 65; refine (HA.out _).mono ?_; rintro e w1 ⟨rfl, hb1⟩)
  go_ret2
  exact ⟨rfl, hb1⟩
theorem shrink_noB (s t : ByteArray) (w : World) (hm : t.size ≤ maxLen) (hs : BitsP s) (ht : ¬ ((t.size : Int) = s.size ∧ BitsP t)) :
    Calls Try.prog 37 #[.string s, .string t] w fun e w' => e = .returned (.tuple #[.string ⟨#[]⟩, .bool false]) ∧ Below w.heap.size w w' := by
  have h4 := hs.len
  have HA : Hid (∀ W : World, Calls Try.prog 65 #[.string s] W fun e w' => e = .returned (.bool true) ∧ Below W.heap.size W w') := fun W => isBits_yes s W hs
  have HB : Hid (∀ W : World, Calls Try.prog 66 #[.string t, .int .i64 s.size] W fun e w' => e = .returned (.bool false) ∧ Below W.heap.size W w') := fun W => isBitsT_b t s.size false W hm (decide_eq_false ht)
  clear hs ht
  go_enter Try.func37, Try.ntmps37
  go_wp2_with (first | (go_at_call 65; refine (HA.out _).mono ?_; rintro e w1 ⟨rfl, hb1⟩) | (go_at_call 66; refine (HB.out _).mono ?_; rintro e w2 ⟨rfl, hb2⟩))
  go_ret2
  exact ⟨rfl, hb1.trans (hb2.mono hb1.size)⟩
theorem specShrink_noA (s t : ByteArray) (w : World) (hm : s.size ≤ maxLen) (hs : ¬ BitsP s) :
    Calls Try.prog 36 #[.string s, .string t] w fun e w' => e = .returned (.tuple #[.string ⟨#[]⟩, .bool false]) ∧ w = w' := by
  have HA : Hid (∀ W : World, Calls Try.prog 56 #[.string s] W fun e w' => e = .returned (.bool false) ∧ W = w') := fun W => l01Bits_no s W hm hs
  clear hs
  go_enter Try.func36, Try.ntmps36
  go_wp2_with (go_at_call 56; refine (HA.out _).mono ?_; rintro e w1 ⟨rfl, rfl⟩)
  go_ret2
  exact ⟨rfl, rfl⟩
theorem specShrink_noB (s t : ByteArray) (w : World) (hm : t.size ≤ maxLen) (hs : BitsP s) (ht : ¬ BitsP t) :
    Calls Try.prog 36 #[.string s, .string t] w fun e w' => e = .returned (.tuple #[.string ⟨#[]⟩, .bool false]) ∧ w = w' := by
  have HA : Hid (∀ W : World, Calls Try.prog 56 #[.string s] W fun e w' => e = .returned (.bool true) ∧ W = w') := fun W => l01Bits_yes s W hs
  have HB : Hid (∀ W : World, Calls Try.prog 56 #[.string t] W fun e w' => e = .returned (.bool false) ∧ W = w') := fun W => l01Bits_no t W hm ht
  clear hs ht
  go_enter Try.func36, Try.ntmps36
  go_wp2_with (go_at_call 56; first | (with_reducible refine (HA.out _).mono ?_; rintro e w1 ⟨rfl, rfl⟩) | (with_reducible refine (HB.out _).mono ?_; rintro e w1 ⟨rfl, rfl⟩))
  go_ret2
  exact ⟨rfl, rfl⟩
theorem specShrink_noC (s t : ByteArray) (w : World) (hs : BitsP s) (ht : BitsP t) (hne : ¬ s.size = t.size) :
    Calls Try.prog 36 #[.string s, .string t] w fun e w' => e = .returned (.tuple #[.string ⟨#[]⟩, .bool false]) ∧ w = w' := by
  have HA : Hid (∀ W : World, Calls Try.prog 56 #[.string s] W fun e w' => e = .returned (.bool true) ∧ W = w') := fun W => l01Bits_yes s W hs
  have HB : Hid (∀ W : World, Calls Try.prog 56 #[.string t] W fun e w' => e = .returned (.bool true) ∧ W = w') := fun W => l01Bits_yes t W ht
  have h1 := hs.len
  have h2 := ht.len
  have hc : ((s.size : Int) != (t.size : Int)) = true := by simp; omega
  clear hs ht
  go_enter Try.func36, Try.ntmps36
  go_wp2_with (go_at_call 56; first | (with_reducible refine (HA.out _).mono ?_; rintro e w1 ⟨rfl, rfl⟩) | (with_reducible refine (HB.out _).mono ?_; rintro e w1 ⟨rfl, rfl⟩))
  go_ret2
  exact ⟨rfl, rfl⟩
set_option maxRecDepth 8000 in
theorem specShrink_yes (s t : ByteArray) (w : World) (hs : BitsP s) (ht : BitsP t) (hst : s.size = t.size) :
    Calls Try.prog 36 #[.string s, .string t] w fun e w' => e = .returned (.tuple #[.string (strOfNums (shr s t t.size)), .bool true]) ∧ Below w.heap.size w w' := by
  obtain ⟨i0, hi, hz0, hz1, hz2⟩ := info_parts Try.info5
  have h4 := ht.len
  have HA : Hid (∀ W : World, Calls Try.prog 56 #[.string s] W fun e w' => e = .returned (.bool true) ∧ W = w') := fun W => l01Bits_yes s W hs
  have HB : Hid (∀ W : World, Calls Try.prog 56 #[.string t] W fun e w' => e = .returned (.bool true) ∧ W = w') := fun W => l01Bits_yes t W ht
  have HL : Hid (∀ k, (shr s t k).length ≤ k) := shr_length s t
  have hc0 : ((s.size : Int) != (t.size : Int)) = false := by simp; omega
  have HSt := Lib.hid hst
  clear hs ht hst
  go_enter Try.func36, Try.ntmps36
  go_wp2_with (go_at_call 56; first | (with_reducible refine (HA.out _).mono ?_; rintro e w1 ⟨rfl, rfl⟩) | (with_reducible refine (HB.out _).mono ?_; rintro e w1 ⟨rfl, rfl⟩))
  go_loopw [6, 7] (fun v0 kv wr => ∃ (k : Nat) (v : Value), v = v0 ∧ k ≤ t.size ∧ kv = .int .i64 k ∧ wr.ownsRow w.heap.size 5 1 v (shr s t k).length ((shr s t k).map (Value.int .u8)) ∧ Below w.heap.size w wr) (fun _ kv _ => t.size - (intOf kv).toNat)
  case atStart => exact ⟨0, _, rfl, Nat.zero_le _, rfl, ownsRow_empty w _ _, (Below.refl _ _).alloc (Nat.le_refl _) _⟩
  case round =>
    obtain ⟨k, v, rfl, hk, rfl, hown, hbel⟩ := hrel
    by_cases hlt : k < t.size
    · have hks : k < s.size := by rw [HSt.out]; exact hlt
      have e1 := get_bt s k hks
      have e2 := get_bt t k hlt
      have hl := HL.out k
      by_cases hx : bt s k = 49
      · have hc : (((s[k]'hks).toNat : Int) == 49) = true := by rw [e1, hx]; rfl
        have HS : Hid (shr s t (k + 1) = shr s t k ++ [((t[k]'hlt).toNat : Int)]) := by unfold Hid; rw [e2]; exact shr_yes hx
        clear e1 e2 hx
        go_wp2_with (at_builtin; refine wpList_append_own _ rfl _ _ 69 rfl w.heap.size 5 i0 (.int .u8 0) 1 1 Try.underlying69 hi hz0 hz1 hz2 rfl (by decide) _ _ _ rfl (hown.alloc _) ⟨wr.heap.size, 0, none⟩ 1 1 [.int .u8 ((t[k]'hlt).toNat : Int)] rfl rfl (cell_one_new _ _ _) (by intro u hu; simp at hu; subst hu; rfl) (by unfold maxLen; omega) (by omega) (by have := hbel.size; simp; omega) ?_; intro v1 w1 hown1 hgrow _)
        have hb1 : Below w.heap.size w w1 := (hbel.alloc hbel.size _).grown hgrow (by have := hbel.size; simp; omega) (own_block hown)
        have HO : Hid (w1.ownsRow w.heap.size 5 1 v1 (shr s t (k + 1)).length ((shr s t (k + 1)).map (Value.int .u8))) := by
          unfold Hid
          rw [HS.out]
          simpa using hown1
        clear hown1 hgrow hown hbel
        go_wp2
        go_roundw
        case rel => exact ⟨k + 1, _, rfl, by omega, by go_num, HO.out, hb1⟩
        case measure => simp [intOf]; omega
      · have hc : (((s[k]'hks).toNat : Int) == 49) = false := by rw [e1, beq_eq_false_iff_ne]; exact hx
        have HS := Lib.hid (shr_no (t := t) hx)
        clear e1 e2 hx
        go_wp2
        go_roundw
        case rel => exact ⟨k + 1, _, rfl, by omega, by go_num, by rw [HS.out]; exact hown, hbel⟩
        case measure => simp [intOf]; omega
    · obtain rfl : k = t.size := by omega
      have hcv := conv_own (P := Try.prog) (dst := 9) Try.underlying69 Try.underlying5 Try.underlying9 hown
      have HB := Lib.hid hbel
      clear hown hbel
      go_wp2
      go_ret2
      exact ⟨rfl, HB.out⟩
theorem lawShrink_all (s t : ByteArray) (w : World) (hm : s.size ≤ maxLen) (hm2 : t.size ≤ maxLen) (H : Hid (∃ (v : ByteArray) (b : Bool), Gives Try.prog 36 #[.string s, .string t] (.tuple #[.string v, .bool b]) ∧ Gives Try.prog 37 #[.string s, .string t] (.tuple #[.string v, .bool b]))) :
    Calls Try.prog 11 #[.string s, .string t] w fun e w' => e = .returned (.bool true) ∧ Below w.heap.size w w' := by
  unfold maxLen at hm hm2
  by_cases hl : s.size ≤ 1048576
  · by_cases hl2 : t.size ≤ 1048576
    · obtain ⟨v, b, HS, HI⟩ := H.out
      have HS := Lib.hid HS
      have HI := Lib.hid HI
      have hbb : (b != b) = false := by simp
      have hbe : (b == b) = true := by simp
      go_enter Try.func11, Try.ntmps11
      go_wp2_with (first | (go_at_call 36; refine (HS.out _).mono ?_; rintro e w1 ⟨rfl, hb1⟩) | (go_at_call 37; refine (HI.out _).mono ?_; rintro e w2 ⟨rfl, hb2⟩))
      go_ret
      exact ⟨rfl, hb1.trans (hb2.mono hb1.size)⟩
    · go_enter Try.func11, Try.ntmps11
      go_wp2
      go_ret
      exact ⟨rfl, Below.refl _ _⟩
  · go_enter Try.func11, Try.ntmps11
    go_wp2
    go_ret
    exact ⟨rfl, Below.refl _ _⟩
theorem givesW {f : FuncId} {a : Array Value} {v : Value} (h : ∀ w : World, Calls Try.prog f a w fun e w' => e = .returned v ∧ w = w') : Gives Try.prog f a v := fun w =>
  (h w).mono fun _ _ ⟨he, hb⟩ => ⟨he, by rw [← hb]; exact Below.refl _ _⟩
theorem lawShrink (s t : ByteArray) (w : World) (hm : s.size ≤ maxLen) (hm2 : t.size ≤ maxLen) :
    Calls Try.prog 11 #[.string s, .string t] w fun e w' => e = .returned (.bool true) ∧ Below w.heap.size w w' := by
  apply lawShrink_all s t w hm hm2
  by_cases hs : BitsP s
  · by_cases ht : BitsP t
    · by_cases hst : s.size = t.size
      · exact ⟨_, true, fun W => specShrink_yes s t W hs ht hst, fun W => shrink_yes s t W hs ht hst⟩
      · exact ⟨_, false, givesW fun W => specShrink_noC s t W hs ht hst, fun W => shrink_noB s t W hm2 hs (fun x => hst (by omega))⟩
    · exact ⟨_, false, givesW fun W => specShrink_noB s t W hm2 hs ht, fun W => shrink_noB s t W hm2 hs (fun x => ht x.2)⟩
  · exact ⟨_, false, givesW fun W => specShrink_noA s t W hm hs, fun W => shrink_noA s t W hm hs⟩
end Go.Proofs.Ytgpcacbjmjpdnab
