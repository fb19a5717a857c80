/- Pairs of flips in the specification: spec.l06Pairs, spec.FairPairs, and the law FnExactFairPairs. -/
import Derived.Test.YtamedggnkbhgeabPairs
namespace Go.Proofs.Ytamedggnkbhgeab
open Go.RowKit Go.PlainAid
set_option maxHeartbeats 1000000

/-- three rows of bytes of one's own, apart from one another -/
def Three (B : Nat) (v1 v2 v3 : Value) (l1 l2 l3 : List Int) (w : World) : Prop :=
  w.ownsRow B 5 1 v1 l1.length (l1.map (Value.int .u8)) ∧ w.ownsRow B 5 1 v2 l2.length (l2.map (Value.int .u8)) ∧ w.ownsRow B 5 1 v3 l3.length (l3.map (Value.int .u8)) ∧
    Apt v1.ownBlock v2.ownBlock ∧ Apt v1.ownBlock v3.ownBlock ∧ Apt v2.ownBlock v3.ownBlock
theorem Three.swap {B : Nat} {v1 v2 v3 : Value} {l1 l2 l3 : List Int} {w : World} (h : Three B v1 v2 v3 l1 l2 l3 w) : Three B v2 v1 v3 l2 l1 l3 w := by
  obtain ⟨h1, h2, h3, a, b, c⟩ := h
  exact ⟨h2, h1, h3, a.symm, c, b⟩
theorem Three.turn {B : Nat} {v1 v2 v3 : Value} {l1 l2 l3 : List Int} {w : World} (h : Three B v1 v2 v3 l1 l2 l3 w) : Three B v3 v1 v2 l3 l1 l2 w := by
  obtain ⟨h1, h2, h3, a, b, c⟩ := h
  exact ⟨h3, h1, h2, b.symm, c.symm, a⟩
theorem Three.drewN {B : Nat} {v1 v2 v3 : Value} {l1 l2 l3 : List Int} {w : World} (h : Three B v1 v2 v3 l1 l2 l3 w) (n : Nat) : Three B v1 v2 v3 l1 l2 l3 (w.drewN n) := h
theorem apt_kept {B n : Nat} {v v2 : Value} {xs : List Value} {w w' : World} {o : Obj} (h : w.ownsRow B 5 1 v2 n xs) (hg : (w.alloc o).grownBy w' v.ownBlock) (ha : Apt v2.ownBlock v.ownBlock) : w'.ownsRow B 5 1 v2 n xs := by
  refine (h.alloc o).kept hg ?_
  cases hv : v2.ownBlock with
  | none => exact .inl rfl
  | some g => exact .inr fun e => ha g hv e.symm
theorem apt_new {B n : Nat} {v v' v2 : Value} {xs : List Value} {w : World} (h : w.ownsRow B 5 1 v2 n xs) (ha : Apt v.ownBlock v2.ownBlock) (hob : v'.ownBlock = v.ownBlock ∨ v'.ownBlock = some (w.heap.size + 1)) : Apt v'.ownBlock v2.ownBlock := by
  rcases hob with e | e
  · rw [e]; exact ha
  · intro g e1 e2
    obtain ⟨_, cur, hh⟩ := own_has h e2
    have := (Array.getElem?_eq_some_iff.1 hh).1
    rw [e] at e1
    have := Option.some.inj e1
    omega
theorem three_step {B : Nat} {v1 v1' v2 v3 : Value} {l1 l2 l3 : List Int} {w w' : World} {o : Obj} {c : Int} (h : Three B v1 v2 v3 l1 l2 l3 w) (hown : w'.ownsRow B 5 1 v1' (l1.length + 1) (l1.map (Value.int .u8) ++ [.int .u8 c]))
    (hg : (w.alloc o).grownBy w' v1.ownBlock) (hob : v1'.ownBlock = v1.ownBlock ∨ v1'.ownBlock = some (w.heap.size + 1)) : Three B v1' v2 v3 (l1 ++ [c]) l2 l3 w' := by
  obtain ⟨h1, h2, h3, a, b, d⟩ := h
  exact ⟨by simpa using hown, apt_kept h2 hg a.symm, apt_kept h3 hg b.symm, apt_new h2 a hob, apt_new h3 b hob, d⟩
theorem three_below {B : Nat} {v1 v2 v3 : Value} {l1 l2 l3 : List Int} {w0 w w' : World} {o : Obj} (h : Three B v1 v2 v3 l1 l2 l3 w) (hB : Below B w0 w) (hb : B ≤ w.heap.size) (hg : (w.alloc o).grownBy w' v1.ownBlock) : Below B w0 w' :=
  (hB.alloc hb _).grown hg (by rw [World.size_alloc]; omega) (own_block h.1)
theorem own_lower {w : World} {B B' n : Nat} {v : Value} {xs : List Value} (h : w.ownsRow B' 5 1 v n xs) (hB : B ≤ B') : w.ownsRow B 5 1 v n xs := by
  obtain ⟨h1, h2 | ⟨g, cap, cur, hv, hg, r⟩⟩ := h
  · exact ⟨h1, .inl h2⟩
  · exact ⟨h1, .inr ⟨g, cap, cur, hv, by omega, r⟩⟩
set_option maxRecDepth 8000 in
theorem specSplit_any (s : ByteArray) (w : World) (hs : BitsP s) :
    Calls Try.prog 47 #[.string s] w fun e w' => e = .returned (.tuple #[.string (strOfNums (prF s (s.size / 2))), .string (strOfNums (prC s (s.size / 2))), .string (strOfNums (prE s (s.size / 2)))]) ∧ Below w.heap.size w w' := by
  obtain ⟨i0, hi, hz0, hz1, hz2⟩ := info_parts Try.info5
  have h4 := hs.len
  have HS := Lib.hid hs
  clear hs
  have HL : Hid (∀ j, (prF s j).length ≤ j ∧ (prC s j).length ≤ j ∧ (prE s j).length ≤ j) := pr_len s
  obtain ⟨N, hN⟩ : ∃ N, N = s.size / 2 := ⟨_, rfl⟩
  rw [← hN]
  have hN2 : 2 * N ≤ s.size := by omega
  have hN3 : s.size ≤ 2 * N + 1 := by omega
  clear hN
  go_enter Try.func47, Try.ntmps47
  have S3 : Hid (Three w.heap.size (.slice (some ⟨w.heap.size, 0, none⟩) 0 0) (.slice (some ⟨w.heap.size + 1, 0, none⟩) 0 0) (.slice (some ⟨w.heap.size + 1 + 1, 0, none⟩) 0 0) [] [] [] (((w.alloc (.cells #[] 5)).alloc (.cells #[] 5)).alloc (.cells #[] 5))) := by
    have k1 := ownsRow_empty w 5 1
    have k2 := ownsRow_empty (w.alloc (.cells #[] 5)) 5 1
    have k3 := ownsRow_empty ((w.alloc (.cells #[] 5)).alloc (.cells #[] 5)) 5 1
    rw [World.size_alloc] at k2
    rw [World.size_alloc, World.size_alloc] at k3
    refine ⟨(k1.alloc _).alloc _, own_lower (k2.alloc _) (by omega), own_lower k3 (by omega), ?_, ?_, ?_⟩ <;>
      (intro g e1 e2; simp [Value.ownBlock] at e1 e2; omega)
  have B3 : Hid (Below w.heap.size w (((w.alloc (.cells #[] 5)).alloc (.cells #[] 5)).alloc (.cells #[] 5))) :=
    (((Below.refl _ w).alloc (Nat.le_refl _) _).alloc (by simp) _).alloc (by simp; omega) _
  go_wp2_with fail
  go_loopw [5, 6, 7, 8] (fun a1 a2 a3 iv wr => ∃ (j : Nat) (v1 v2 v3 : Value), v1 = a1 ∧ v2 = a2 ∧ v3 = a3 ∧ j ≤ N ∧ iv = .int .i64 (2 * j : Nat) ∧ Hid (Three w.heap.size v1 v2 v3 (prF s j) (prC s j) (prE s j) wr) ∧ Hid (Below w.heap.size w wr)) (fun _ _ _ iv _ => s.size - (intOf iv).toNat)
  case atStart => exact ⟨0, _, _, _, rfl, rfl, rfl, Nat.zero_le _, rfl, S3, B3⟩
  case round =>
    obtain ⟨j, v1, v2, v3, rfl, rfl, rfl, hj, rfl, S, B⟩ := hrel
    clear S3 B3
    have hz := B.out.size
    by_cases hlt : j < N
    · obtain ⟨l1, l2, l3⟩ := HL.out j
      obtain ⟨p, hp⟩ : ∃ p, p = 2 * j := ⟨_, rfl⟩
      obtain ⟨q, hq⟩ : ∃ q, q = p + 1 := ⟨_, rfl⟩
      have hps : p < s.size := by omega
      have hqs : q < s.size := by omega
      have e1 := get_bt s p hps
      have e2 := get_bt s q hqs
      have hsub : ((p : Nat) : Int) + 1 = (q : Nat) := by omega
      have hsub2 : IntKind.i64.wrap (((p : Nat) : Int) + 1) = (q : Nat) := by rw [hsub]; exact IntWalk.i64_in _ (by omega)
      have HF : Hid (prF s (j + 1) = if bt s p = bt s q then prF s j else prF s j ++ [bt s p]) := by unfold Hid; rw [hq, hp]; rfl
      have HC : Hid (prC s (j + 1) = prC s j ++ [if bt s p = bt s q then 48 else 49]) := by unfold Hid; rw [hq, hp]; rfl
      have HE : Hid (prE s (j + 1) = if bt s p = bt s q then prE s j ++ [bt s p] else prE s j) := by unfold Hid; rw [hq, hp]; rfl
      have HQ : Hid (p + 2 = 2 * (j + 1)) := by unfold Hid; omega
      rw [← hp]
      by_cases hb : bt s p = bt s q
      · have hc : (((s[p]'hps).toNat : Int) == ((s[q]'hqs).toNat : Int)) = true := by rw [e1, e2, hb]; simp
        have HF2 : Hid (prF s (j + 1) = prF s j) := by unfold Hid; rw [HF.out, if_pos hb]
        have HC2 : Hid (prC s (j + 1) = prC s j ++ [48]) := by unfold Hid; rw [HC.out, if_pos hb]
        have HE2 : Hid (prE s (j + 1) = prE s j ++ [((s[p]'hps).toNat : Int)]) := by unfold Hid; rw [HE.out, if_pos hb, e1]
        clear hb e1 e2 hp hq HF HC HE
        go_wp2_with fail
        go_quiet (fail)
        go_wp2_with (at_builtin; refine wpList_append_own_at _ rfl _ _ 65 rfl w.heap.size 5 i0 (.int .u8 0) 1 1 Try.underlying65 hi hz0 hz1 hz2 rfl (by decide) _ _ _ rfl ((S.out.turn.drewN _).1.alloc _) ⟨wr.heap.size, 0, none⟩ 1 1 [.int .u8 ((s[p]'hps).toNat : Int)] rfl rfl (cell_one_new _ _ _) (by intro u hu; simp at hu; subst hu; rfl) (by unfold maxLen; omega) (by omega) (by first | (simp; done) | (simp; omega)) ?_)
        intro w3 w5 hown5 hgrow5 _ hob5
        have T5 := Lib.hid (three_step (S.out.turn.drewN _) hown5 hgrow5 hob5)
        have B5 : Hid (Below w.heap.size w w5) := three_below (S.out.turn.drewN _) (below_drewN B.out _) hz hgrow5
        clear hown5 hgrow5 hob5
        have hz5 := B5.out.size
        go_wp2_with (at_builtin; refine wpList_append_own_at _ rfl _ _ 65 rfl w.heap.size 5 i0 (.int .u8 0) 1 1 Try.underlying65 hi hz0 hz1 hz2 rfl (by decide) _ _ _ rfl (T5.out.turn.1.alloc _) ⟨w5.heap.size, 0, none⟩ 1 1 [.int .u8 48] rfl rfl (cell_one_new _ _ _) (by intro u hu; simp at hu; subst hu; rfl) (by unfold maxLen; omega) (by omega) (by first | (simp; done) | (simp; omega)) ?_)
        intro w2 w6 hown6 hgrow6 _ hob6
        have T6 : Hid (Three w.heap.size v1 w2 w3 (prF s (j + 1)) (prC s (j + 1)) (prE s (j + 1)) w6) := by
          unfold Hid
          rw [HF2.out, HC2.out, HE2.out]
          exact (three_step T5.out.turn hown6 hgrow6 hob6).turn
        have B6 : Hid (Below w.heap.size w w6) := three_below T5.out.turn B5.out hz5 hgrow6
        clear hown6 hgrow6 hob6
        go_wp2
        go_roundw
        case rel => exact ⟨j + 1, _, _, _, rfl, rfl, rfl, by omega, by rw [← HQ.out]; go_num, T6, B6⟩
        case measure => simp [intOf]; omega
      · have hc : (((s[p]'hps).toNat : Int) == ((s[q]'hqs).toNat : Int)) = false := by rw [e1, e2]; simp [hb]
        have HF2 : Hid (prF s (j + 1) = prF s j ++ [((s[p]'hps).toNat : Int)]) := by unfold Hid; rw [HF.out, if_neg hb, e1]
        have HC2 : Hid (prC s (j + 1) = prC s j ++ [49]) := by unfold Hid; rw [HC.out, if_neg hb]
        have HE2 : Hid (prE s (j + 1) = prE s j) := by unfold Hid; rw [HE.out, if_neg hb]
        clear hb e1 e2 hp hq HF HC HE
        go_wp2_with fail
        go_quiet (fail)
        go_wp2_with (at_builtin; refine wpList_append_own_at _ rfl _ _ 65 rfl w.heap.size 5 i0 (.int .u8 0) 1 1 Try.underlying65 hi hz0 hz1 hz2 rfl (by decide) _ _ _ rfl ((S.out.drewN _).1.alloc _) ⟨wr.heap.size, 0, none⟩ 1 1 [.int .u8 ((s[p]'hps).toNat : Int)] rfl rfl (cell_one_new _ _ _) (by intro u hu; simp at hu; subst hu; rfl) (by unfold maxLen; omega) (by omega) (by first | (simp; done) | (simp; omega)) ?_)
        intro w1 w5 hown5 hgrow5 _ hob5
        have T5 := Lib.hid (three_step (S.out.drewN _) hown5 hgrow5 hob5)
        have B5 : Hid (Below w.heap.size w w5) := three_below (S.out.drewN _) (below_drewN B.out _) hz hgrow5
        clear hown5 hgrow5 hob5
        have hz5 := B5.out.size
        go_wp2_with (at_builtin; refine wpList_append_own_at _ rfl _ _ 65 rfl w.heap.size 5 i0 (.int .u8 0) 1 1 Try.underlying65 hi hz0 hz1 hz2 rfl (by decide) _ _ _ rfl (T5.out.swap.1.alloc _) ⟨w5.heap.size, 0, none⟩ 1 1 [.int .u8 49] rfl rfl (cell_one_new _ _ _) (by intro u hu; simp at hu; subst hu; rfl) (by unfold maxLen; omega) (by omega) (by first | (simp; done) | (simp; omega)) ?_)
        intro w2 w6 hown6 hgrow6 _ hob6
        have T6 : Hid (Three w.heap.size w1 w2 v3 (prF s (j + 1)) (prC s (j + 1)) (prE s (j + 1)) w6) := by
          unfold Hid
          rw [HF2.out, HC2.out, HE2.out]
          exact (three_step T5.out.swap hown6 hgrow6 hob6).swap
        have B6 : Hid (Below w.heap.size w w6) := three_below T5.out.swap B5.out hz5 hgrow6
        clear hown6 hgrow6 hob6
        go_wp2
        go_roundw
        case rel => exact ⟨j + 1, _, _, _, rfl, rfl, rfl, by omega, by rw [← HQ.out]; go_num, T6, B6⟩
        case measure => simp [intOf]; omega
    · obtain rfl : j = N := by omega
      have cv1 : ∀ n, (convert 65 9 v1).run Try.prog (wr.drewN n) = .ok (.string (strOfNums (prF s j))) (wr.drewN n) := fun n => conv_own Try.underlying65 Try.underlying5 Try.underlying9 (S.out.drewN n).1
      have cv2 : ∀ n, (convert 65 9 v2).run Try.prog (wr.drewN n) = .ok (.string (strOfNums (prC s j))) (wr.drewN n) := fun n => conv_own Try.underlying65 Try.underlying5 Try.underlying9 (S.out.drewN n).2.1
      have cv3 : ∀ n, (convert 65 9 v3).run Try.prog (wr.drewN n) = .ok (.string (strOfNums (prE s j))) (wr.drewN n) := fun n => conv_own Try.underlying65 Try.underlying5 Try.underlying9 (S.out.drewN n).2.2.1
      go_wp2_with fail
      go_quiet (fail)
      go_wp2
      go_returns
      exact ⟨rfl, below_drewN B.out _⟩
theorem specPairs_yes (s : ByteArray) (w : World) (hs : BitsP s) :
    Calls Try.prog 21 #[.string s] w fun e w' => e = .returned (.tuple #[.string (strOfNums (prF s (s.size / 2))), .bool true]) ∧ Below w.heap.size w w' := by
  have HS := Lib.hid hs
  clear hs
  go_enter Try.func21, Try.ntmps21
  go_wp2_with fail
  refine (l01Bits_yes s _ HS.out).mono ?_
  rintro e w1 ⟨rfl, rfl⟩
  go_wp2_with fail
  refine (specSplit_any s w HS.out).mono ?_
  rintro e w2 ⟨rfl, hb⟩
  go_wp2
  go_ret2
  exact ⟨rfl, hb⟩
theorem specPairs_no (s : ByteArray) (w : World) (hm : s.size ≤ maxLen) (hs : ¬ BitsP s) :
    Calls Try.prog 21 #[.string s] w fun e w' => e = .returned (.tuple #[.string ⟨#[]⟩, .bool false]) ∧ Below w.heap.size w w' := by
  have HN : Hid (∀ W : World, Calls Try.prog 35 #[.string s] W fun e w' => e = .returned (.bool false) ∧ W = w') := fun W => l01Bits_no s W hm hs
  clear hs
  go_enter Try.func21, Try.ntmps21
  go_wp2_with fail
  refine (HN.out _).mono ?_
  rintro e w1 ⟨rfl, rfl⟩
  go_wp2
  go_ret2
  exact ⟨rfl, Below.refl _ _⟩
theorem lawFP_core (s : ByteArray) (w : World) (hl : s.size ≤ 1048576) (x : ByteArray) (ok : Bool)
    (HS : Hid (∀ W : World, Calls Try.prog 21 #[.string s] W fun e w' => e = .returned (.tuple #[.string x, .bool ok]) ∧ Below W.heap.size W w'))
    (HI : Hid (∀ W : World, Calls Try.prog 22 #[.string s] W fun e w' => e = .returned (.tuple #[.string x, .bool ok]) ∧ Below W.heap.size W w')) :
    Calls Try.prog 7 #[.string s] w fun e w' => e = .returned (.bool true) ∧ Below w.heap.size w w' := by
  have h3 : (ok != ok) = false := by simp
  go_enter Try.func7, Try.ntmps7
  go_wp2_with fail
  refine (HS.out _).mono ?_
  rintro e w1 ⟨rfl, hb⟩
  have B := hb
  clear hb
  go_wp2_with fail
  refine (HI.out _).mono ?_
  rintro e w2 ⟨rfl, hb⟩
  replace B := B.trans (hb.mono B.size)
  clear hb
  go_wp2
  go_ret
  exact ⟨rfl, B⟩
theorem lawFP (s : ByteArray) (w : World) (hm : s.size ≤ maxLen) :
    Calls Try.prog 7 #[.string s] w fun e w' => e = .returned (.bool true) ∧ Below w.heap.size w w' := by
  by_cases hl : s.size ≤ 1048576
  · by_cases hs : BitsP s
    · exact lawFP_core s w hl _ true (fun W => specPairs_yes s W hs) (fun W => pairs_yes s W hs)
    · exact lawFP_core s w hl _ false (fun W => specPairs_no s W hm hs) (fun W => pairs_no s W hm hs)
  · unfold maxLen at hm
    go_enter Try.func7, Try.ntmps7
    go_wp2
    go_ret
    exact ⟨rfl, Below.refl _ _⟩
end Go.Proofs.Ytamedggnkbhgeab
