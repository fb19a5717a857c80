/- Pairs of flips: impl.splitPairs, impl.FairPairs. -/
import Derived.Test.YtamedggnkbhgeabBld
import Derived.Test.YtamedggnkbhgeabRdr
namespace Go.Proofs.Ytamedggnkbhgeab
open Go.RowKit Go.PlainAid
set_option maxHeartbeats 1000000

/-- the first bits of the first j pairs whose bits differ; whether they differ; the first bits of those that are equal -/
def prF (s : ByteArray) : Nat → List Int
  | 0 => []
  | j + 1 => if bt s (2 * j) = bt s (2 * j + 1) then prF s j else prF s j ++ [bt s (2 * j)]
def prC (s : ByteArray) : Nat → List Int
  | 0 => []
  | j + 1 => prC s j ++ [if bt s (2 * j) = bt s (2 * j + 1) then 48 else 49]
def prE (s : ByteArray) : Nat → List Int
  | 0 => []
  | j + 1 => if bt s (2 * j) = bt s (2 * j + 1) then prE s j ++ [bt s (2 * j)] else prE s j
theorem pr_len (s : ByteArray) : ∀ j, (prF s j).length ≤ j ∧ (prC s j).length ≤ j ∧ (prE s j).length ≤ j := by
  intro j
  induction j with
  | zero => simp [prF, prC, prE]
  | succ j ih =>
    simp only [prF, prC, prE]
    split <;> simp <;> omega
theorem pr_in (s : ByteArray) (h : AllIn 48 49 s) : ∀ j, 2 * j ≤ s.size → (∀ x ∈ prF s j, 48 ≤ x ∧ x ≤ 49) ∧ (∀ x ∈ prC s j, 48 ≤ x ∧ x ≤ 49) ∧ (∀ x ∈ prE s j, 48 ≤ x ∧ x ≤ 49) := by
  intro j
  induction j with
  | zero => intro _; simp [prF, prC, prE]
  | succ j ih =>
    intro hj
    obtain ⟨h1, h2, h3⟩ := ih (by omega)
    have hb := bit_in h (show 2 * j < s.size by omega)
    have app : ∀ (l : List Int) (c : Int), (∀ x ∈ l, 48 ≤ x ∧ x ≤ 49) → 48 ≤ c ∧ c ≤ 49 → ∀ x ∈ l ++ [c], 48 ≤ x ∧ x ≤ 49 := fun l c hl hc x hx => by
      rcases List.mem_append.1 hx with hx | hx
      · exact hl x hx
      · simp at hx; omega
    simp only [prF, prC, prE]
    split
    · exact ⟨h1, app _ _ h2 (by omega), app _ _ h3 hb⟩
    · exact ⟨app _ _ h1 hb, app _ _ h2 (by omega), h3⟩

def Apt (G H : Option Nat) : Prop := ∀ g, G = some g → H ≠ some g
theorem Apt.symm {G H : Option Nat} (h : Apt G H) : Apt H G := fun g e f => h g f e
theorem apt_none (H : Option Nat) : Apt none H := fun g e => by cases e
/-- three builders -/
def Tri (B b1 b2 b3 : Nat) (l1 l2 l3 : List Int) (w : World) : Prop :=
  ∃ G1 G2 G3 : Option Nat, BAt B b1 l1 G1 w ∧ BAt B b2 l2 G2 w ∧ BAt B b3 l3 G3 w ∧ Apt G1 G2 ∧ Apt G1 G3 ∧ Apt G2 G3
theorem Tri.swap {B b1 b2 b3 : Nat} {l1 l2 l3 : List Int} {w : World} (h : Tri B b1 b2 b3 l1 l2 l3 w) : Tri B b2 b1 b3 l2 l1 l3 w := by
  obtain ⟨G1, G2, G3, h1, h2, h3, a, b, c⟩ := h
  exact ⟨G2, G1, G3, h2, h1, h3, a.symm, c, b⟩
theorem Tri.turn {B b1 b2 b3 : Nat} {l1 l2 l3 : List Int} {w : World} (h : Tri B b1 b2 b3 l1 l2 l3 w) : Tri B b3 b1 b2 l3 l1 l2 w := by
  obtain ⟨G1, G2, G3, h1, h2, h3, a, b, c⟩ := h
  exact ⟨G3, G1, G2, h3, h1, h2, b.symm, c.symm, a⟩
theorem Tri.turn2 {B b1 b2 b3 : Nat} {l1 l2 l3 : List Int} {w : World} (h : Tri B b3 b1 b2 l3 l1 l2 w) : Tri B b1 b2 b3 l1 l2 l3 w := h.turn.turn
theorem Tri.drewN {B b1 b2 b3 : Nat} {l1 l2 l3 : List Int} {w : World} (h : Tri B b1 b2 b3 l1 l2 l3 w) (n : Nat) : Tri B b1 b2 b3 l1 l2 l3 (w.drewN n) := h
theorem Tri.lt {B b1 b2 b3 : Nat} {l1 l2 l3 : List Int} {w : World} (h : Tri B b1 b2 b3 l1 l2 l3 w) : b1 < w.heap.size := by
  obtain ⟨G1, G2, G3, h1, _⟩ := h
  exact h1.lt
/-- a touch of the first -/
theorem tri_touch {B b1 b2 b3 : Nat} {l1 l1' l2 l3 : List Int} {G1 G1' G2 G3 : Option Nat} {w w' : World} (h1 : BAt B b1 l1 G1 w) (h2 : BAt B b2 l2 G2 w) (h3 : BAt B b3 l3 G3 w) (a12 : Apt G1 G2) (a13 : Apt G1 G3) (a23 : Apt G2 G3)
    (n12 : b1 ≠ b2) (n13 : b1 ≠ b3) (k1 : BAt B b1 l1' G1' w') (hG : G1' = G1 ∨ ∃ g, G1' = some g ∧ w.heap.size ≤ g) (ht : Tch b1 G1 w w') : Tri B b1 b2 b3 l1' l2 l3 w' := by
  have k2 := h2.keep ht (Ne.symm n12) (h2.not_buf h1) (h1.not_buf h2) (fun g e => a12.symm g e)
  have k3 := h3.keep ht (Ne.symm n13) (h3.not_buf h1) (h1.not_buf h3) (fun g e => a13.symm g e)
  refine ⟨G1', G2, G3, k1, k2, k3, ?_, ?_, a23⟩
  · rcases hG with rfl | ⟨g, rfl, hg⟩
    · exact a12
    · intro g' e f
      have := (h2.buf_lt f).2
      have := Option.some.inj e
      omega
  · rcases hG with rfl | ⟨g, rfl, hg⟩
    · exact a13
    · intro g' e f
      have := (h3.buf_lt f).2
      have := Option.some.inj e
      omega
theorem tri_write {B b1 b2 b3 : Nat} {l1 l2 l3 : List Int} (c : Int) {w : World} (h : Tri B b1 b2 b3 l1 l2 l3 w) (n12 : b1 ≠ b2) (n13 : b1 ≠ b3) (hl : l1.length ≤ 1048576) (hB : B ≤ w.heap.size) :
    Calls Try.prog 74 #[.pointer (some ⟨b1, 0, none⟩), .int .u8 c] w fun e w' => e = .returned .nilIface ∧ Tri B b1 b2 b3 (l1 ++ [c]) l2 l3 w' ∧ Below B w w' := by
  obtain ⟨G1, G2, G3, h1, h2, h3, a12, a13, a23⟩ := h
  refine (writeByte_at B b1 l1 c G1 w h1 hl hB).mono ?_
  rintro e w' ⟨rfl, G1', k1, hG, ht⟩
  exact ⟨rfl, tri_touch h1 h2 h3 a12 a13 a23 n12 n13 k1 hG ht, ht.below h1.1 (fun g e => (h1.buf_lt e).1) hB⟩
theorem tri_string {B b1 b2 b3 : Nat} {l1 l2 l3 : List Int} {w : World} (h : Tri B b1 b2 b3 l1 l2 l3 w) (n12 : b1 ≠ b2) (n13 : b1 ≠ b3) (hl : ∀ x ∈ l1, 48 ≤ x ∧ x ≤ 49) (hB : B ≤ w.heap.size) :
    Calls Try.prog 53 #[.pointer (some ⟨b1, 0, none⟩)] w fun e w' => e = .returned (.string (strOfNums l1)) ∧ (∃ G2 G3, BAt B b2 l2 G2 w' ∧ BAt B b3 l3 G3 w' ∧ Apt G2 G3) ∧ Below B w w' := by
  obtain ⟨G1, G2, G3, h1, h2, h3, a12, a13, a23⟩ := h
  refine (string_at B b1 l1 G1 w h1 (fun x hx => by have := hl x hx; omega)).mono ?_
  rintro e w' ⟨rfl, ht⟩
  have k2 := h2.keep ht (Ne.symm n12) (h2.not_buf h1) (h1.not_buf h2) (fun g e => a12.symm g e)
  have k3 := h3.keep ht (Ne.symm n13) (h3.not_buf h1) (h1.not_buf h3) (fun g e => a13.symm g e)
  exact ⟨rfl, ⟨G2, G3, k2, k3, a23⟩, ht.below h1.1 (fun g e => (h1.buf_lt e).1) hB⟩
theorem bat_new {B : Nat} (w : World) (hB : B ≤ w.heap.size) : BAt B w.heap.size [] none (w.alloc (.cells #[.pointer none, .slice none 0 0] 67)) :=
  ⟨hB, .pointer none, .slice none 0 0, .inl rfl, heap_alloc_new w _, ⟨by simp, .inl ⟨rfl, rfl⟩⟩, rfl⟩
theorem bat_old {B b : Nat} {w : World} (o : Obj) (h : BAt B b [] none w) : BAt B b [] none (w.alloc o) := by
  have hlt := h.lt
  obtain ⟨hB, p, v, hp, hb, ho, hv⟩ := h
  exact ⟨hB, p, v, hp, (Lib.alloc_old w o b hlt).trans hb, ho.alloc o, hv⟩
set_option maxRecDepth 8000 in
theorem split_any (s : ByteArray) (w : World) (hs : BitsP s) :
    Calls Try.prog 49 #[.string s] w fun e w' => e = .returned (.tuple #[.string (strOfNums (prF s (s.size / 2))), .string (strOfNums (prC s (s.size / 2))), .string (strOfNums (prE s (s.size / 2)))]) ∧ Below w.heap.size w w' := by
  have h4 := hs.len
  have HS := Lib.hid hs
  clear hs
  have HL : Hid (∀ j, (prF s j).length ≤ j ∧ (prC s j).length ≤ j ∧ (prE s j).length ≤ j) := pr_len s
  obtain ⟨N, hN⟩ : ∃ N, N = s.size / 2 := ⟨_, rfl⟩
  rw [← hN]
  have hN2 : 2 * N ≤ s.size := by omega
  have hN3 : s.size ≤ 2 * N + 1 := by omega
  clear hN
  go_enter Try.func49, Try.ntmps49
  have S3 : Hid (Tri w.heap.size w.heap.size (w.heap.size + 1) (w.heap.size + 1 + 1) [] [] [] (((w.alloc (.cells #[.pointer none, .slice none 0 0] 67)).alloc (.cells #[.pointer none, .slice none 0 0] 67)).alloc (.cells #[.pointer none, .slice none 0 0] 67))) := by
    have k1 := bat_new w (Nat.le_refl w.heap.size)
    have k2 := bat_new (B := w.heap.size) (w.alloc (.cells #[.pointer none, .slice none 0 0] 67)) (by rw [World.size_alloc]; omega)
    have k3 := bat_new (B := w.heap.size) ((w.alloc (.cells #[.pointer none, .slice none 0 0] 67)).alloc (.cells #[.pointer none, .slice none 0 0] 67)) (by rw [World.size_alloc, World.size_alloc]; omega)
    rw [World.size_alloc] at k2
    rw [World.size_alloc, World.size_alloc] at k3
    exact ⟨none, none, none, bat_old _ (bat_old _ k1), bat_old _ k2, k3, apt_none _, apt_none _, apt_none _⟩
  have B3 : Hid (Below w.heap.size w (((w.alloc (.cells #[.pointer none, .slice none 0 0] 67)).alloc (.cells #[.pointer none, .slice none 0 0] 67)).alloc (.cells #[.pointer none, .slice none 0 0] 67))) :=
    (((Below.refl _ w).alloc (Nat.le_refl _) _).alloc (by simp) _).alloc (by simp; omega) _
  go_wp2_with fail
  go_loopw [8] (fun iv wr => ∃ j : Nat, j ≤ N ∧ iv = .int .i64 (2 * j + 1 : Nat) ∧ Hid (Tri w.heap.size w.heap.size (w.heap.size + 1) (w.heap.size + 1 + 1) (prF s j) (prC s j) (prE s j) wr) ∧ Hid (Below w.heap.size w wr)) (fun iv _ => s.size - (intOf iv).toNat)
  case atStart => exact ⟨0, Nat.zero_le _, rfl, S3, B3⟩
  case round =>
    obtain ⟨j, hj, rfl, S, B⟩ := hrel
    clear S3 B3
    have hz := B.out.size
    by_cases hlt : j < N
    · obtain ⟨l1, l2, l3⟩ := HL.out j
      obtain ⟨p, hp⟩ : ∃ p, p = 2 * j := ⟨_, rfl⟩
      obtain ⟨q, hq⟩ : ∃ q, q = 2 * j + 1 := ⟨_, rfl⟩
      have hps : p < s.size := by omega
      have hqs : q < s.size := by omega
      have e1 := get_bt s p hps
      have e2 := get_bt s q hqs
      have hsub : ((q : Nat) : Int) - 1 = (p : Nat) := by omega
      have hsub2 : IntKind.i64.wrap (((q : Nat) : Int) - 1) = (p : Nat) := by rw [hsub]; exact IntWalk.i64_in _ (by omega)
      have HF : Hid (prF s (j + 1) = if bt s p = bt s q then prF s j else prF s j ++ [bt s p]) := by unfold Hid; rw [hp, hq]; rfl
      have HC : Hid (prC s (j + 1) = prC s j ++ [if bt s p = bt s q then 48 else 49]) := by unfold Hid; rw [hp, hq]; rfl
      have HE : Hid (prE s (j + 1) = if bt s p = bt s q then prE s j ++ [bt s p] else prE s j) := by unfold Hid; rw [hp, hq]; rfl
      have HQ : Hid (q + 2 = 2 * (j + 1) + 1) := by unfold Hid; omega
      rw [← hq]
      by_cases hb : bt s p = bt s q
      · have hc : (((s[p]'hps).toNat : Int) != ((s[q]'hqs).toNat : Int)) = false := by rw [e1, e2, hb]; simp
        have HF2 : Hid (prF s (j + 1) = prF s j) := by unfold Hid; rw [HF.out, if_pos hb]
        have HC2 : Hid (prC s (j + 1) = prC s j ++ [48]) := by unfold Hid; rw [HC.out, if_pos hb]
        have HE2 : Hid (prE s (j + 1) = prE s j ++ [((s[p]'hps).toNat : Int)]) := by unfold Hid; rw [HE.out, if_pos hb, e1]
        clear hb e1 e2 hp hq HF HC HE
        go_wp2_with fail
        go_quiet (fail)
        go_wp2_with fail
        refine (tri_write 48 (S.out.swap.drewN _) (by omega) (by omega) (by omega) hz).mono ?_
        rintro e w5 ⟨rfl, t5, hb5⟩
        have hz5 := hb5.size
        have T5 := Lib.hid t5
        have B5 : Hid (Below w.heap.size w w5) := (below_drewN B.out _).trans (hb5.mono (Nat.le_refl _))
        clear t5 hb5
        have hz5 := B5.out.size
        go_wp2_with fail
        refine (tri_write _ (T5.out.turn) (by omega) (by omega) (by omega) hz5).mono ?_
        rintro e w6 ⟨rfl, t6, hb6⟩
        have T6 : Hid (Tri w.heap.size w.heap.size (w.heap.size + 1) (w.heap.size + 1 + 1) (prF s (j + 1)) (prC s (j + 1)) (prE s (j + 1)) w6) := by
          unfold Hid
          rw [HF2.out, HC2.out, HE2.out]
          exact t6.turn2.swap
        have B6 : Hid (Below w.heap.size w w6) := B5.out.trans (hb6.mono (Nat.le_refl _))
        clear t6 hb6
        go_wp2
        go_roundw
        case rel => exact ⟨j + 1, by omega, by rw [← HQ.out]; go_num, T6, B6⟩
        case measure => simp [intOf]; omega
      · have hc : (((s[p]'hps).toNat : Int) != ((s[q]'hqs).toNat : Int)) = true := by rw [e1, e2]; simp [hb]
        have HF2 : Hid (prF s (j + 1) = prF s j ++ [((s[p]'hps).toNat : Int)]) := by unfold Hid; rw [HF.out, if_neg hb, e1]
        have HC2 : Hid (prC s (j + 1) = prC s j ++ [49]) := by unfold Hid; rw [HC.out, if_neg hb]
        have HE2 : Hid (prE s (j + 1) = prE s j) := by unfold Hid; rw [HE.out, if_neg hb]
        clear hb e1 e2 hp hq HF HC HE
        go_wp2_with fail
        go_quiet (fail)
        go_wp2_with fail
        refine (tri_write _ (S.out.drewN _) (by omega) (by omega) (by omega) hz).mono ?_
        rintro e w5 ⟨rfl, t5, hb5⟩
        have T5 := Lib.hid t5
        have B5 : Hid (Below w.heap.size w w5) := (below_drewN B.out _).trans (hb5.mono (Nat.le_refl _))
        clear t5 hb5
        have hz5 := B5.out.size
        go_wp2_with fail
        refine (tri_write 49 (T5.out.swap) (by omega) (by omega) (by omega) hz5).mono ?_
        rintro e w6 ⟨rfl, t6, hb6⟩
        have T6 : Hid (Tri w.heap.size w.heap.size (w.heap.size + 1) (w.heap.size + 1 + 1) (prF s (j + 1)) (prC s (j + 1)) (prE s (j + 1)) w6) := by
          unfold Hid
          rw [HF2.out, HC2.out, HE2.out]
          exact t6.swap
        have B6 : Hid (Below w.heap.size w w6) := B5.out.trans (hb6.mono (Nat.le_refl _))
        clear t6 hb6
        go_wp2
        go_roundw
        case rel => exact ⟨j + 1, by omega, by rw [← HQ.out]; go_num, T6, B6⟩
        case measure => simp [intOf]; omega
    · obtain rfl : j = N := by omega
      have HI := Lib.hid (pr_in s HS.out.all j (by omega))
      go_wp2_with fail
      refine (tri_string S.out (by omega) (by omega) HI.out.1 hz).mono ?_
      rintro e w5 ⟨rfl, ⟨G2, G3, k2, k3, a23⟩, hb5⟩
      have K := Lib.hid (And.intro k2 (And.intro k3 a23))
      have B5 : Hid (Below w.heap.size w w5) := B.out.trans (hb5.mono (Nat.le_refl _))
      clear k2 k3 a23 hb5
      go_wp2_with fail
      refine (string_at w.heap.size (w.heap.size + 1) (prC s j) G2 w5 K.out.1 (fun x hx => by have := HI.out.2.1 x hx; omega)).mono ?_
      rintro e w6 ⟨rfl, ht⟩
      have k3 := K.out.2.1.keep ht (by omega) (K.out.2.1.not_buf K.out.1) (K.out.1.not_buf K.out.2.1) (fun g e => K.out.2.2.symm g e)
      have K3 := Lib.hid k3
      have B6 : Hid (Below w.heap.size w w6) := B5.out.trans ((ht.below K.out.1.1 (fun g e => (K.out.1.buf_lt e).1) B5.out.size).mono (Nat.le_refl _))
      clear ht k3
      go_wp2_with fail
      refine (string_at w.heap.size (w.heap.size + 1 + 1) (prE s j) G3 w6 K3.out (fun x hx => by have := HI.out.2.2 x hx; omega)).mono ?_
      rintro e w7 ⟨rfl, ht⟩
      have B7 : Hid (Below w.heap.size w w7) := B6.out.trans ((ht.below K3.out.1 (fun g e => (K3.out.buf_lt e).1) B6.out.size).mono (Nat.le_refl _))
      clear ht
      go_wp2
      go_returns
      exact ⟨rfl, B7.out⟩
theorem pairs_yes (s : ByteArray) (w : World) (hs : BitsP s) :
    Calls Try.prog 22 #[.string s] w fun e w' => e = .returned (.tuple #[.string (strOfNums (prF s (s.size / 2))), .bool true]) ∧ Below w.heap.size w w' := by
  have HS := Lib.hid hs
  clear hs
  go_enter Try.func22, Try.ntmps22
  go_wp2_with fail
  refine (isBits_yes s _ HS.out).mono ?_
  rintro e w1 ⟨rfl, hb⟩
  have B1 := Lib.hid hb
  clear hb
  go_wp2_with fail
  refine (split_any s w1 HS.out).mono ?_
  rintro e w2 ⟨rfl, hb⟩
  have B2 := Lib.hid (B1.out.trans (hb.mono B1.out.size))
  clear hb
  go_wp2
  go_ret2
  exact ⟨rfl, B2.out⟩
theorem pairs_no (s : ByteArray) (w : World) (hm : s.size ≤ maxLen) (hs : ¬ BitsP s) :
    Calls Try.prog 22 #[.string s] w fun e w' => e = .returned (.tuple #[.string ⟨#[]⟩, .bool false]) ∧ Below w.heap.size w w' := by
  have HN : Hid (∀ W : World, Calls Try.prog 48 #[.string s] W fun e w' => e = .returned (.bool false) ∧ Below W.heap.size W w') := fun W => isBits_no s W hm hs
  clear hs
  go_enter Try.func22, Try.ntmps22
  go_wp2_with fail
  refine (HN.out _).mono ?_
  rintro e w1 ⟨rfl, hb⟩
  go_wp2
  go_ret2
  exact ⟨rfl, hb⟩
end Go.Proofs.Ytamedggnkbhgeab
