/- The law FnExactReadList. -/
import Derived.Test.YtpnifnpbolieoabDoorReadListI
namespace Go.Proofs.YtpnifnpbolieoabDoor
open Go.RowKit Go.PlainAid
set_option maxHeartbeats 1600000

def GivesR (f : FuncId) (s : ByteArray) (xs : List Int) (ok : Bool) (W : World) : Prop := Calls Tryd.prog f #[.string s] W fun e w' => ∃ v, e = .returned (.tuple #[v, .bool ok]) ∧ SL W.heap.size w'.heap.size w' v xs ∧ Below W.heap.size W w'
theorem specRList_of (s : ByteArray) (xs : List Int) (ok : Bool) (w : World) (h : GivesR 56 s xs ok w) : GivesR 20 s xs ok w := by
  have H := Lib.hid h
  clear h
  unfold GivesR
  go_enter Tryd.func20, Tryd.ntmps20
  go_wp2_with fail
  refine H.out.mono ?_
  rintro e w1 ⟨v, rfl, hs, hb⟩
  have HF := Lib.hid (And.intro hs hb)
  clear hs hb H
  go_wp2
  go_ret2
  exact ⟨_, rfl, HF.out.1, HF.out.2⟩
set_option maxRecDepth 8000 in
theorem specNum_none (w : World) : GivesR 56 ⟨#[110, 111, 110, 101]⟩ [] true w := by
  have HB0 : Hid (Below w.heap.size w (w.alloc (.cells #[] 2))) := (Below.refl _ _).alloc (Nat.le_refl _) _
  have HL0 : Hid (SL w.heap.size (w.alloc (.cells #[] 2)).heap.size (w.alloc (.cells #[] 2)) (.slice (some ⟨w.heap.size, 0, none⟩) 0 0) []) := SL.of_own (xs := []) (ownsRow_empty w 2 1)
  have q1 : ((⟨#[110, 111, 110, 101]⟩ : ByteArray).toList == [110, 111, 110, 101]) = true := by rw [none_list]; rfl
  obtain ⟨s, hs⟩ : ∃ s, (⟨#[110, 111, 110, 101]⟩ : ByteArray) = s := ⟨_, rfl⟩
  have hz : s.size = 4 := by rw [← hs]; rfl
  rw [hs] at q1
  unfold GivesR
  rw [hs]
  clear hs
  go_enter Tryd.func56, Tryd.ntmps56
  go_wp2
  go_loopw [4, 5, 6] (fun ov fv iv wr => ov = .slice (some ⟨w.heap.size, 0, none⟩) 0 0 ∧ fv = .int .i64 0 ∧ iv = .int .i64 0 ∧ wr = w.alloc (.cells #[] 2)) (fun _ _ _ _ => 0)
  case atStart => exact ⟨rfl, rfl, rfl, rfl⟩
  case round =>
    obtain ⟨rfl, rfl, rfl, rfl⟩ := hrel
    go_wp2
    go_ret2
    exact ⟨_, rfl, HL0.out, HB0.out⟩
theorem implNum_none (w : World) : GivesR 21 ⟨#[110, 111, 110, 101]⟩ [] true w := by
  have HB0 : Hid (Below w.heap.size w (w.alloc (.cells #[] 2))) := (Below.refl _ _).alloc (Nat.le_refl _) _
  have HL0 : Hid (SL w.heap.size (w.alloc (.cells #[] 2)).heap.size (w.alloc (.cells #[] 2)) (.slice (some ⟨w.heap.size, 0, none⟩) 0 0) []) := SL.of_own (xs := []) (ownsRow_empty w 2 1)
  have q1 : ((⟨#[110, 111, 110, 101]⟩ : ByteArray).toList == [110, 111, 110, 101]) = true := by rw [none_list]; rfl
  obtain ⟨s, hs⟩ : ∃ s, (⟨#[110, 111, 110, 101]⟩ : ByteArray) = s := ⟨_, rfl⟩
  rw [hs] at q1
  unfold GivesR
  rw [hs]
  clear hs
  go_enter Tryd.func21, Tryd.ntmps21
  go_wp2
  go_ret2
  exact ⟨_, rfl, HL0.out, HB0.out⟩
theorem itoa_map : ∀ (xs ys : List Int), AllV xs → AllV ys → xs.map Lib.itoa = ys.map Lib.itoa → xs = ys
  | [], [], _, _, _ => rfl
  | [], _ :: _, _, _, h => by simp at h
  | _ :: _, [], _, _, h => by simp at h
  | x :: xs, y :: ys, hx, hy, h => by
    rw [List.map_cons, List.map_cons] at h
    injection h with h1 h2
    have a := (hx x (List.mem_cons_self ..)).i64
    have b := (hy y (List.mem_cons_self ..)).i64
    rw [itoa_inj x y a.1 a.2 b.1 b.2 h1, itoa_map xs ys (fun z hz => hx z (List.mem_cons_of_mem _ hz)) (fun z hz => hy z (List.mem_cons_of_mem _ hz)) h2]
theorem nums_one {l : List UInt8} {xs ys : List Int} (hx : NumsOf l xs) (hy : NumsOf l ys) : xs = ys := itoa_map xs ys hx.2.1 hy.2.1 (hx.2.2.symm.trans hy.2.2)
/-- one result for a text, of both -/
theorem list_pair (s : ByteArray) (hs : s.size ≤ 1048576) (w : World) (ht : Tabs w) (hm : MaxN w) : ∃ xs ok, xs.length ≤ 64 ∧ (∀ W, Below w.heap.size w W → GivesR 20 s xs ok W) ∧ ∀ W, Below w.heap.size w W → GivesR 21 s xs ok W := by
  by_cases hn : s = ⟨#[110, 111, 110, 101]⟩
  · subst hn
    exact ⟨[], true, Nat.zero_le _, fun W _ => specRList_of _ _ _ W (specNum_none W), fun W _ => implNum_none W⟩
  · by_cases hx : ∃ xs, NumsOf s.data.toList xs
    · obtain ⟨xs, hx⟩ := hx
      refine ⟨xs, true, hx.1, fun W _ => specRList_of _ _ _ W ?_, fun W hW => ?_⟩
      · refine (l01Numbers_any s W hs hn).mono ?_
        rintro e w' (⟨v, ys, he, hy, hl, hb⟩ | ⟨_, h, _⟩)
        · rw [nums_one hx hy]
          exact ⟨v, he, hl, hb⟩
        · exact absurd hx (h xs)
      · refine (readList_any s W hs hn (ht.on hW) (hm.on hW)).mono ?_
        rintro e w' (⟨v, ys, he, hy, hl, hb⟩ | ⟨_, h, _⟩)
        · rw [nums_one hx hy]
          exact ⟨v, he, hl, hb⟩
        · exact absurd hx (h xs)
    · refine ⟨[], false, Nat.zero_le _, fun W _ => specRList_of _ _ _ W ?_, fun W hW => ?_⟩
      · refine (l01Numbers_any s W hs hn).mono ?_
        rintro e w' (⟨_, ys, _, hy, _⟩ | ⟨he, _, hb⟩)
        · exact absurd ⟨ys, hy⟩ hx
        · exact ⟨_, he, .inl ⟨rfl, rfl⟩, hb⟩
      · refine (readList_any s W hs hn (ht.on hW) (hm.on hW)).mono ?_
        rintro e w' (⟨_, ys, _, hy, _⟩ | ⟨he, _, hb⟩)
        · exact absurd ⟨ys, hy⟩ hx
        · exact ⟨_, he, .inl ⟨rfl, rfl⟩, hb⟩
theorem lawRList_core (s : ByteArray) (w : World) (hl : s.size ≤ 1048576) (xs : List Int) (ok : Bool) (hn : xs.length ≤ 64) (HS : Hid (∀ W, Below w.heap.size w W → GivesR 20 s xs ok W)) (HI : Hid (∀ W, Below w.heap.size w W → GivesR 21 s xs ok W)) :
    Calls Tryd.prog 6 #[.string s] w fun e w' => e = .returned (.bool true) ∧ Below w.heap.size w w' := by
  have hok : (ok != ok) = false := by simp
  have hq : (((1 : Int) + (xs.length : Int)) != ((1 : Int) + (xs.length : Int))) = false := by simp
  go_enter Tryd.func6, Tryd.ntmps6
  go_wp2_with fail
  refine (HS.out _ (Below.refl _ _)).mono ?_
  rintro e w1 ⟨a, rfl, ha, hb1⟩
  go_wp2_with fail
  refine (HI.out _ hb1).mono ?_
  rintro e w2 ⟨b, rfl, hb, hb2⟩
  have ha2 := ha.below hb2
  have hbel2 : Below w.heap.size w w2 := hb1.trans (hb2.mono hb1.size)
  have z1 := hb1.size
  have z2 := hb2.size
  clear ha hb1 hb2
  have H2 := Lib.hid (And.intro ha2 hb)
  clear ha2 hb
  go_wp2_with fail
  refine (eq64_yes _ _ xs _ _ _ _ _ H2.out.2 H2.out.1 (by omega)).mono ?_
  rintro e w3 ⟨rfl, n3, rfl⟩
  go_wp2_with fail
  refine (mark64_any _ xs _ _ 1 _ (H2.out.2.drewN n3) (by omega) (by omega) (by omega)).mono ?_
  rintro e w4 ⟨rfl, hm, hg⟩
  have K := Lib.hid (Kept.mk0 hbel2 z1 z2 H2.out.1 H2.out.2 hm hg)
  clear hm hg hbel2 z2 H2
  go_wp2_with fail
  refine (held64_any _ _ _ _ 1 _ K.out.sb (by omega) (by omega) (by omega)).mono ?_
  rintro e w4 ⟨rfl, rfl⟩
  go_wp2_with fail
  refine (HI.out _ K.out.bel).mono ?_
  rintro e w5 ⟨c, rfl, hc, hb5⟩
  have K5 := Lib.hid (K.out.next hb5 z1)
  have HC := Lib.hid hc
  clear K hb5 hc
  go_wp2_with fail
  refine (eq64_yes _ _ xs _ _ _ _ _ HC.out K5.out.sa (by omega)).mono ?_
  rintro e w6 ⟨rfl, n6, rfl⟩
  have K6 := Lib.hid (K5.out.drewN n6)
  clear K5 HC
  go_wp2_with fail
  refine (held64_any _ _ _ _ 1 _ K6.out.sb (by omega) (by omega) (by omega)).mono ?_
  rintro e w7 ⟨rfl, rfl⟩
  go_wp2
  go_ret
  exact ⟨rfl, K6.out.bel⟩
theorem lawRList (s : ByteArray) (w : World) (hmx : s.size ≤ maxLen) (ht : Tabs w) (hm : MaxN w) :
    Calls Tryd.prog 6 #[.string s] w fun e w' => e = .returned (.bool true) ∧ Below w.heap.size w w' := by
  by_cases hs : s.size ≤ 1048576
  · obtain ⟨xs, ok, hx, h1, h2⟩ := list_pair s hs w ht hm
    exact lawRList_core s w hs xs ok hx h1 h2
  · unfold maxLen at hmx
    clear ht hm
    go_enter Tryd.func6, Tryd.ntmps6
    go_wp2
    go_ret
    exact ⟨rfl, Below.refl _ _⟩
end Go.Proofs.YtpnifnpbolieoabDoor
