/- Deeper pairs: impl.FairDeep, spec.FairDeep, and the law. -/
import Derived.Test.YtamedggnkbhgeabPairsS
import Derived.Lib.AppendStr
import Derived.Laws.EntriesVeiled
namespace Go.Proofs.Ytamedggnkbhgeab
open Go.RowKit Go.PlainAid
set_option maxHeartbeats 1000000

/-- even bits of pairs, and of what pairs leave -/
def deepL : Nat → ByteArray → List Int
  | 0, _ => []
  | d + 1, s => prF s (s.size / 2) ++ deepL d (strOfNums (prC s (s.size / 2))) ++ deepL d (strOfNums (prE s (s.size / 2)))
theorem bits_of (l : List Int) (hl : l.length ≤ 400) (h : ∀ x ∈ l, 48 ≤ x ∧ x ≤ 49) : BitsP (strOfNums l) := by
  refine ⟨by rw [strOfNums_size]; exact hl, fun k hk => ?_⟩
  rw [strOfNums_size] at hk
  have e : (strOfNums l)[k]'(by rw [strOfNums_size]; exact hk) = UInt8.ofNat (l[k]).toNat := by
    have h1 := strOfNums_data l
    have h2 : ((strOfNums l).data.toList)[k]? = some (UInt8.ofNat (l[k]).toNat) := by rw [h1]; simp [List.getElem?_eq_getElem hk]
    have h3 : (strOfNums l).data[k]? = some (UInt8.ofNat (l[k]).toNat) := by simpa using h2
    exact (Array.getElem?_eq_some_iff.1 h3).2
  have hx := h l[k] (List.getElem_mem hk)
  rw [e]
  have : (UInt8.ofNat (l[k]).toNat).toNat = (l[k]).toNat := by
    simp
    omega
  omega
theorem pr_bits {s : ByteArray} (h : BitsP s) : BitsP (strOfNums (prC s (s.size / 2))) ∧ BitsP (strOfNums (prE s (s.size / 2))) := by
  have h1 := pr_len s (s.size / 2)
  have h2 := pr_in s h.all (s.size / 2) (by omega)
  have h3 := h.len
  exact ⟨bits_of _ (by omega) h2.2.1, bits_of _ (by omega) h2.2.2⟩
theorem deepL_in : ∀ (d : Nat) (s : ByteArray), BitsP s → (∀ x ∈ deepL d s, 48 ≤ x ∧ x ≤ 49) ∧ (deepL d s).length ≤ d * s.size := by
  intro d
  induction d with
  | zero => intro s _; exact ⟨fun x hx => by simp [deepL] at hx, by simp [deepL]⟩
  | succ d ih =>
    intro s h
    have h1 := pr_len s (s.size / 2)
    have h2 := pr_in s h.all (s.size / 2) (by omega)
    obtain ⟨b1, b2⟩ := pr_bits h
    obtain ⟨i1, l1⟩ := ih _ b1
    obtain ⟨i2, l2⟩ := ih _ b2
    rw [strOfNums_size] at l1 l2
    constructor
    · intro x hx
      simp only [deepL, List.mem_append] at hx
      rcases hx with (hx | hx) | hx
      · exact h2.1 x hx
      · exact i1 x hx
      · exact i2 x hx
    · simp only [deepL, List.length_append]
      have m1 : d * (prC s (s.size / 2)).length ≤ d * (s.size / 2) := Nat.mul_le_mul_left _ h1.2.1
      have m2 : d * (prE s (s.size / 2)).length ≤ d * (s.size / 2) := Nat.mul_le_mul_left _ h1.2.2
      have e : (d + 1) * s.size = d * s.size + s.size := Nat.succ_mul d s.size
      have m3 : d * (2 * (s.size / 2)) ≤ d * s.size := Nat.mul_le_mul_left _ (by omega)
      have m4 : d * (2 * (s.size / 2)) = d * (s.size / 2) + d * (s.size / 2) := by rw [Nat.two_mul, Nat.mul_add]
      omega
theorem strCells_of (l : List Int) (h : ∀ x ∈ l, 48 ≤ x ∧ x ≤ 49) : Lib.strCells (strOfNums l) = l.map (Value.int .u8) := by
  have hb := bytes_nums l (fun x hx => by have := h x hx; omega)
  rw [hb]
  unfold Lib.strCells Lib.byteCells
  rw [strOfNums_data]
/-- a builder, and the cell of the function that writes into it -/
def DW (B b c : Nat) (l : List Int) (w : World) : Prop :=
  (∃ G, BAt B b l G w) ∧ w.heap[c]? = some (.cells #[.func (.func 51) #[] #[.pointer (some ⟨b, 0, none⟩), .pointer (some ⟨c, 0, none⟩)]] 68 (0, 0))
theorem BAt.far {B b : Nat} {l : List Int} {G : Option Nat} {w w' : World} (h : BAt B b l G w) (hb : Below w.heap.size w w') : BAt B b l G w' := by
  have hlt := h.lt
  obtain ⟨hB, p, v, hp, hk, ho, hv⟩ := h
  exact ⟨hB, p, v, hp, (hb.block b hlt).trans hk, own_far ho hb, hv⟩
theorem DW.far {B b c : Nat} {l : List Int} {w w' : World} (h : DW B b c l w) (hb : Below w.heap.size w w') : DW B b c l w' := by
  obtain ⟨⟨G, h1⟩, h2⟩ := h
  exact ⟨⟨G, h1.far hb⟩, (hb.block c (Array.getElem?_eq_some_iff.1 h2).1).trans h2⟩
set_option maxRecDepth 20000 in
theorem writeString_at (B b c : Nat) (l l2 : List Int) (w : World) (h : DW B b c l w) (h2 : ∀ x ∈ l2, 48 ≤ x ∧ x ≤ 49) (hlen : l.length + l2.length ≤ 1048576) (hBw : B ≤ w.heap.size) :
    Calls Try.prog 52 #[.pointer (some ⟨b, 0, none⟩), .string (strOfNums l2)] w fun e w' => e = .returned (.tuple #[.int .i64 l2.length, .nilIface]) ∧ DW B b c (l ++ l2) w' ∧ Below B w w' := by
  obtain ⟨i0, hi, hz0, hz1, hz2⟩ := info_parts Try.info5
  obtain ⟨⟨G, hb0⟩, hcc⟩ := h
  have HH := Lib.hid hb0
  have HCC := Lib.hid hcc
  have HSC := Lib.hid (strCells_of l2 h2)
  have HSZ : Hid ((strOfNums l2).size = l2.length) := strOfNums_size l2
  have hsz : (strOfNums l2).size ≤ 1048576 := by rw [HSZ.out]; omega
  generalize strOfNums l2 = s2 at HSC HSZ hsz ⊢
  clear hb0 hcc h2
  go_enter Try.func52, Try.ntmps52
  go_wp2_with fail
  refine (copyCheck_at B b l G w HH.out).mono ?_
  rintro e w1 ⟨v, rfl, hbk, hown, hv, hne, hg1, hz⟩
  have c0 : w1.cell? ⟨b, 0, none⟩ = some (.pointer (some ⟨b, 0, none⟩)) := by rw [Lib.cell_of_heap hbk]; rfl
  have c1 : w1.cell? ⟨b, 1, none⟩ = some v := by rw [Lib.cell_of_heap hbk]; rfl
  have HBK := Lib.hid hbk
  have HNE := Lib.hid hne
  have HG1 := Lib.hid hg1
  have HV := Lib.hid hv
  have HZ := Lib.hid hz
  clear hbk hne hg1 hv hz
  go_wp2_with (at_builtin; refine Lib.wpList_append_own_string _ rfl _ _ 65 9 rfl B 5 i0 Try.underlying65 Try.underlying9 hi hz0 hz1 hz2 _ _ _ rfl hown s2 rfl (by unfold maxLen; rw [HSZ.out]; omega) (by rw [HSZ.out]; omega) (by have := HZ.out; omega) ?_)
  intro v1 w2 hown2 hgrow _
  obtain ⟨ao, n', cap, rfl⟩ : ∃ ao n' cap, v1 = .slice ao n' cap := by
    rcases hown2.2 with ⟨hv, _⟩ | ⟨g, cap, cur, hv, _⟩
    · exact ⟨_, _, _, hv⟩
    · exact ⟨_, _, _, hv⟩
  have hlt1 : b < w1.heap.size := (Array.getElem?_eq_some_iff.1 HBK.out).1
  have hb2 : w2.heap[b]? = some (.cells #[.pointer (some ⟨b, 0, none⟩), v] 67 (0, 0)) := (hgrow.block b hlt1 (by rw [HV.out]; exact fun e => HNE.out e.symm)).trans HBK.out
  have d1 : w2.cell? ⟨b, 1, none⟩ = some v := (Lib.cell_of_heap hb2 1).trans rfl
  have f1 : w2.frozen? ⟨b, 1, none⟩ = false := Lib.frozen_of_heap hb2 1
  have HF : Hid (DW B b c (l ++ l2) (w2.setCell ⟨b, 1, none⟩ (.slice ao n' cap)) ∧ Below B w (w2.setCell ⟨b, 1, none⟩ (.slice ao n' cap))) := by
    have hbw := HH.out.lt
    have hcw := (Array.getElem?_eq_some_iff.1 HCC.out).1
    rw [HSC.out, HSZ.out] at hown2
    have hown3 : w2.ownsRow B 5 1 (.slice ao n' cap) (l ++ l2).length ((l ++ l2).map (Value.int .u8)) := by simpa using hown2
    have hne1 := Lib.ownBlock_ne hown3 hb2 (by decide)
    have hs : w2.grownBy (w2.setCell ⟨b, 1, none⟩ (.slice ao n' cap)) (some b) := ⟨rfl, rfl, rfl, by simp [World.setCell], fun k _ hk => Below.heap_setCell _ _ _ _ (fun e => hk (by simp [e]))⟩
    have hcb : c ≠ b := fun e => by
      obtain ⟨_, p0, v0, _, hb0, _⟩ := HH.out
      have h5 := HCC.out
      rw [e, hb0] at h5
      simp at h5
    have hcG : some c ≠ v.ownBlock := fun e => by
      rw [HV.out] at e
      obtain ⟨_, cur, h6⟩ := HH.out.buf e.symm
      have h5 := HCC.out
      rw [h6] at h5
      simp at h5
    have hc1 : w1.heap[c]? = w.heap[c]? := HG1.out.block c hcw (fun e => hcb (Option.some.inj e))
    have hc2 : w2.heap[c]? = w1.heap[c]? := hgrow.block c (by have := HZ.out; omega) hcG
    have hc3 : (w2.setCell ⟨b, 1, none⟩ (.slice ao n' cap)).heap[c]? = w2.heap[c]? := hs.block c (by have := hgrow.size; have := HZ.out; omega) (fun e => hcb (Option.some.inj e))
    refine ⟨⟨⟨_, HH.out.1, .pointer (some ⟨b, 0, none⟩), .slice ao n' cap, .inr rfl, ?_, hown3.kept hs (.inr hne1), rfl⟩, (hc3.trans (hc2.trans hc1)).trans HCC.out⟩, ?_⟩
    · simp [World.setCell, Array.getElem?_modify, hb2]
    · have hB1 : Below B w w1 := (Below.refl B w).grown HG1.out hBw (by simp; exact HH.out.1)
      exact (hB1.grown hgrow (by have := HZ.out; omega) (own_block hown)).setCell (p := ⟨b, 1, none⟩) HH.out.1 _
  clear hown2 hgrow hb2 c0 c1 hlt1
  go_wp2
  go_ret2
  exact ⟨by rw [← HSZ.out]; rfl, HF.out⟩
set_option maxRecDepth 20000 in
theorem collect_any : ∀ (d : Nat) (B b c : Nat) (l : List Int) (s : ByteArray) (w : World), d ≤ 8 → BitsP s → DW B b c l w → l.length + d * s.size ≤ 100000 → B ≤ w.heap.size → B ≤ c →
    Calls Try.prog 51 #[.string s, .int .i64 d, .pointer (some ⟨b, 0, none⟩), .pointer (some ⟨c, 0, none⟩)] w fun e w' => e = .returned (.tuple #[]) ∧ DW B b c (l ++ deepL d s) w' ∧ Below B w w' := by
  intro d
  induction d with
  | zero =>
    intro B b c l s w _ _ h _ _ _
    have H := Lib.hid h
    clear h
    go_enter Try.func51, Try.ntmps51
    go_wp2_with fail
    exact bodyPost_ret (v := .tuple #[]) (by simp [results, Try.results51, go_sem]) rfl ⟨rfl, by simpa [deepL] using H.out, Below.refl _ _⟩
  | succ d ih =>
    intro B b c l s w hd hs h hl hB hBc
    have h4 := hs.len
    have hpl := pr_len s (s.size / 2)
    have hpi := pr_in s hs.all (s.size / 2) (by omega)
    obtain ⟨hbC, hbE⟩ := pr_bits hs
    have hdC := deepL_in d _ hbC
    have hm : (d + 1) * s.size = d * s.size + s.size := Nat.succ_mul d s.size
    have m1 : d * (strOfNums (prC s (s.size / 2))).size ≤ d * (s.size / 2) := Nat.mul_le_mul_left _ (by rw [strOfNums_size]; omega)
    have m2 : d * (strOfNums (prE s (s.size / 2))).size ≤ d * (s.size / 2) := Nat.mul_le_mul_left _ (by rw [strOfNums_size]; omega)
    have m3 : d * (2 * (s.size / 2)) ≤ d * s.size := Nat.mul_le_mul_left _ (by omega)
    have m4 : d * (2 * (s.size / 2)) = d * (s.size / 2) + d * (s.size / 2) := by rw [Nat.two_mul, Nat.mul_add]
    have HSp : Hid (∀ W : World, Calls Try.prog 49 #[.string s] W fun e w' => e = .returned (.tuple #[.string (strOfNums (prF s (s.size / 2))), .string (strOfNums (prC s (s.size / 2))), .string (strOfNums (prE s (s.size / 2)))]) ∧ Below W.heap.size W w') := fun W => split_any s W hs
    have HW : Hid (∀ W : World, DW B b c l W → B ≤ W.heap.size → Calls Try.prog 52 #[.pointer (some ⟨b, 0, none⟩), .string (strOfNums (prF s (s.size / 2)))] W fun e w' => e = .returned (.tuple #[.int .i64 (prF s (s.size / 2)).length, .nilIface]) ∧ DW B b c (l ++ prF s (s.size / 2)) w' ∧ Below B W w') := fun W h1 h2 => writeString_at B b c l _ W h1 hpi.1 (by omega) h2
    have HC1 : Hid (∀ W : World, DW B b c (l ++ prF s (s.size / 2)) W → B ≤ W.heap.size → Calls Try.prog 51 #[.string (strOfNums (prC s (s.size / 2))), .int .i64 d, .pointer (some ⟨b, 0, none⟩), .pointer (some ⟨c, 0, none⟩)] W fun e w' => e = .returned (.tuple #[]) ∧ DW B b c (l ++ prF s (s.size / 2) ++ deepL d (strOfNums (prC s (s.size / 2)))) w' ∧ Below B W w') :=
      fun W h1 h2 => ih B b c _ _ W (by omega) hbC h1 (by rw [List.length_append]; omega) h2 hBc
    have HC2 : Hid (∀ W : World, DW B b c (l ++ prF s (s.size / 2) ++ deepL d (strOfNums (prC s (s.size / 2)))) W → B ≤ W.heap.size → Calls Try.prog 51 #[.string (strOfNums (prE s (s.size / 2))), .int .i64 d, .pointer (some ⟨b, 0, none⟩), .pointer (some ⟨c, 0, none⟩)] W fun e w' => e = .returned (.tuple #[]) ∧ DW B b c (l ++ prF s (s.size / 2) ++ deepL d (strOfNums (prC s (s.size / 2))) ++ deepL d (strOfNums (prE s (s.size / 2)))) w' ∧ Below B W w') :=
      fun W h1 h2 => ih B b c _ _ W (by omega) hbE h1 (by rw [List.length_append, List.length_append]; have := hdC.2; omega) h2 hBc
    have HE : Hid (deepL (d + 1) s = prF s (s.size / 2) ++ deepL d (strOfNums (prC s (s.size / 2))) ++ deepL d (strOfNums (prE s (s.size / 2)))) := rfl
    generalize strOfNums (prF s (s.size / 2)) = sF at HSp HW
    generalize strOfNums (prC s (s.size / 2)) = sC at HSp HC1 HC2 HE
    generalize strOfNums (prE s (s.size / 2)) = sE at HSp HC2 HE
    have hz : (((d + 1 : Nat) : Int) == 0) = false := by simp; omega
    have hd1 : ((d + 1 : Nat) : Int) - 1 = (d : Nat) := by omega
    have HD := Lib.hid h
    clear h ih hs hpl hpi hbC hbE hdC hm m1 m2 m3 m4 hl
    go_enter Try.func51, Try.ntmps51
    go_wp2_with fail
    refine (HSp.out _).mono ?_
    rintro e w1 ⟨rfl, hb⟩
    have HD1 := Lib.hid (HD.out.far hb)
    have HB1 : Hid (Below B w w1) := hb.mono hB
    have z1 : B ≤ w1.heap.size := Nat.le_trans hB hb.size
    clear hb
    go_wp2_with fail
    refine (HW.out _ HD1.out z1).mono ?_
    rintro e w2 ⟨rfl, hD2, hb⟩
    have HB2 : Hid (Below B w w2) := HB1.out.trans hb
    have z2 : B ≤ w2.heap.size := Nat.le_trans z1 hb.size
    have c2 : w2.cell? ⟨c, 0, none⟩ = some (.func (.func 51) #[] #[.pointer (some ⟨b, 0, none⟩), .pointer (some ⟨c, 0, none⟩)]) := by rw [Lib.cell_of_heap hD2.2]; rfl
    have HD2 := Lib.hid hD2
    clear hb hD2
    go_wp2_with fail
    refine (HC1.out _ HD2.out z2).mono ?_
    rintro e w3 ⟨rfl, hD3, hb⟩
    have HB3 : Hid (Below B w w3) := HB2.out.trans hb
    have z3 : B ≤ w3.heap.size := Nat.le_trans z2 hb.size
    have c3 : w3.cell? ⟨c, 0, none⟩ = some (.func (.func 51) #[] #[.pointer (some ⟨b, 0, none⟩), .pointer (some ⟨c, 0, none⟩)]) := by rw [Lib.cell_of_heap hD3.2]; rfl
    have HD3 := Lib.hid hD3
    clear hb hD3 c2
    go_wp2_with fail
    refine (HC2.out _ HD3.out z3).mono ?_
    rintro e w4 ⟨rfl, hD4, hb⟩
    have HF : Hid (DW B b c (l ++ deepL (d + 1) s) w4 ∧ Below B w w4) := ⟨by rw [HE.out]; simpa [List.append_assoc] using hD4, HB3.out.trans hb⟩
    clear hb hD4 c3
    go_wp2
    go_end0
    exact ⟨rfl, HF.out⟩
theorem deep_yes (s : ByteArray) (d : Nat) (w : World) (hs : BitsP s) (hd : d ≤ 8) :
    Calls Try.prog 24 #[.string s, .int .i64 d] w fun e w' => e = .returned (.tuple #[.string (strOfNums (deepL d s)), .bool true]) ∧ Below w.heap.size w w' := by
  have HS := Lib.hid hs
  have h4 := hs.len
  have HI := Lib.hid (deepL_in d s hs)
  have hm : d * s.size ≤ 8 * 400 := Nat.mul_le_mul hd h4
  clear hs
  go_enter Try.func24, Try.ntmps24
  go_wp2_with fail
  refine (isBits_yes s _ HS.out).mono ?_
  rintro e w1 ⟨rfl, hb⟩
  have HB1 := Lib.hid hb
  clear hb
  go_wp2_with fail
  refine (btw64_yes d 0 8 _ (by omega) (by omega)).mono ?_
  rintro e w1 ⟨rfl, rfl⟩
  have HD : Hid (DW w1.heap.size w1.heap.size (w1.heap.size + 1) [] ((w1.alloc (.cells #[.pointer none, .slice none 0 0] 67)).alloc (.cells #[.func (.func 51) #[] #[.pointer (some ⟨w1.heap.size, 0, none⟩), .pointer (some ⟨w1.heap.size + 1, 0, none⟩)]] 68))) := by
    refine ⟨⟨none, bat_old _ (bat_new w1 (Nat.le_refl _))⟩, ?_⟩
    have := heap_alloc_new (w1.alloc (.cells #[.pointer none, .slice none 0 0] 67)) (.cells #[.func (.func 51) #[] #[.pointer (some ⟨w1.heap.size, 0, none⟩), .pointer (some ⟨w1.heap.size + 1, 0, none⟩)]] 68)
    rwa [World.size_alloc] at this
  have HB2 : Hid (Below w.heap.size w ((w1.alloc (.cells #[.pointer none, .slice none 0 0] 67)).alloc (.cells #[.func (.func 51) #[] #[.pointer (some ⟨w1.heap.size, 0, none⟩), .pointer (some ⟨w1.heap.size + 1, 0, none⟩)]] 68))) :=
    (HB1.out.alloc HB1.out.size _).alloc (by have := HB1.out.size; rw [World.size_alloc]; omega) _
  have hz1 := HB1.out.size
  go_wp2_with fail
  refine (collect_any d w1.heap.size w1.heap.size (w1.heap.size + 1) [] s _ hd HS.out HD.out (by rw [List.length_nil]; omega) (by rw [World.size_alloc, World.size_alloc]; omega) (by omega)).mono ?_
  rintro e w3 ⟨rfl, hD3, hb⟩
  rw [List.nil_append] at hD3
  have HB3 : Hid (Below w.heap.size w w3) := HB2.out.trans (hb.mono hz1)
  obtain ⟨⟨G, hG⟩, _⟩ := hD3
  have HG := Lib.hid hG
  have z3 : w1.heap.size ≤ w3.heap.size := by have := hb.size; rw [World.size_alloc, World.size_alloc] at this; omega
  clear hb hG
  go_wp2_with fail
  refine (string_at w1.heap.size w1.heap.size (deepL d s) G w3 HG.out (fun x hx => by have := HI.out.1 x hx; omega)).mono ?_
  rintro e w4 ⟨rfl, ht⟩
  have HB4 : Hid (Below w.heap.size w w4) := HB3.out.trans ((ht.below HG.out.1 (fun g e => (HG.out.buf_lt e).1) z3).mono hz1)
  clear ht
  go_wp2
  go_ret2
  exact ⟨rfl, HB4.out⟩
theorem deep_no (s : ByteArray) (d : Int) (w : World) (hm : s.size ≤ maxLen) (h : ¬ (BitsP s ∧ 0 ≤ d ∧ d ≤ 8)) :
    Calls Try.prog 24 #[.string s, .int .i64 d] w fun e w' => e = .returned (.tuple #[.string ⟨#[]⟩, .bool false]) ∧ Below w.heap.size w w' := by
  by_cases hs : BitsP s
  · have HN : Hid (∀ W : World, Calls Try.prog 32 #[.int .i64 d, .int .i64 0, .int .i64 8] W fun e w' => e = .returned (.bool false) ∧ W = w') := fun W => btw64_no d 0 8 W fun x => h ⟨hs, x⟩
    have HS := Lib.hid hs
    clear h hs
    go_enter Try.func24, Try.ntmps24
    go_wp2_with fail
    refine (isBits_yes s _ HS.out).mono ?_
    rintro e w1 ⟨rfl, hb⟩
    go_wp2_with fail
    refine (HN.out _).mono ?_
    rintro e w1 ⟨rfl, rfl⟩
    go_wp2
    go_ret2
    exact ⟨rfl, hb⟩
  · have HN : Hid (∀ W : World, Calls Try.prog 48 #[.string s] W fun e w' => e = .returned (.bool false) ∧ Below W.heap.size W w') := fun W => isBits_no s W hm hs
    clear h hs
    go_enter Try.func24, Try.ntmps24
    go_wp2_with fail
    refine (HN.out _).mono ?_
    rintro e w1 ⟨rfl, hb⟩
    go_wp2
    go_ret2
    exact ⟨rfl, hb⟩
theorem str_append (a b : List Int) : strOfNums a ++ strOfNums b = strOfNums (a ++ b) := by
  apply ByteArray.ext
  simp [strOfNums]
theorem specDeep_any : ∀ (d : Nat) (s : ByteArray) (w : World), d ≤ 8 → BitsP s →
    Calls Try.prog 50 #[.string s, .int .i64 d] w fun e w' => e = .returned (.string (strOfNums (deepL d s))) ∧ Below w.heap.size w w' := by
  intro d
  induction d with
  | zero =>
    intro s w _ _
    go_enter Try.func50, Try.ntmps50
    go_wp2
    go_ret
    exact ⟨rfl, Below.refl _ _⟩
  | succ d ih =>
    intro s w hd hs
    obtain ⟨hbC, hbE⟩ := pr_bits hs
    have HSp : Hid (∀ W : World, Calls Try.prog 47 #[.string s] W fun e w' => e = .returned (.tuple #[.string (strOfNums (prF s (s.size / 2))), .string (strOfNums (prC s (s.size / 2))), .string (strOfNums (prE s (s.size / 2)))]) ∧ Below W.heap.size W w') := fun W => specSplit_any s W hs
    have HC1 : Hid (∀ W : World, Calls Try.prog 50 #[.string (strOfNums (prC s (s.size / 2))), .int .i64 d] W fun e w' => e = .returned (.string (strOfNums (deepL d (strOfNums (prC s (s.size / 2)))))) ∧ Below W.heap.size W w') := fun W => ih _ W (by omega) hbC
    have HC2 : Hid (∀ W : World, Calls Try.prog 50 #[.string (strOfNums (prE s (s.size / 2))), .int .i64 d] W fun e w' => e = .returned (.string (strOfNums (deepL d (strOfNums (prE s (s.size / 2)))))) ∧ Below W.heap.size W w') := fun W => ih _ W (by omega) hbE
    have HE : Hid (strOfNums (prF s (s.size / 2)) ++ strOfNums (deepL d (strOfNums (prC s (s.size / 2)))) ++ strOfNums (deepL d (strOfNums (prE s (s.size / 2)))) = strOfNums (deepL (d + 1) s)) := by
      unfold Hid
      rw [str_append, str_append]
      rfl
    have h4 := hs.len
    have hpl := pr_len s (s.size / 2)
    have k1 : (strOfNums (prF s (s.size / 2))).size ≤ 400 := by rw [strOfNums_size]; omega
    have k2 : (strOfNums (deepL d (strOfNums (prC s (s.size / 2))))).size ≤ 3200 := by
      have := (deepL_in d _ hbC).2
      have m : d * (strOfNums (prC s (s.size / 2))).size ≤ 8 * 400 := Nat.mul_le_mul (by omega) (by rw [strOfNums_size]; omega)
      rw [strOfNums_size]
      omega
    have k3 : (strOfNums (deepL d (strOfNums (prE s (s.size / 2))))).size ≤ 3200 := by
      have := (deepL_in d _ hbE).2
      have m : d * (strOfNums (prE s (s.size / 2))).size ≤ 8 * 400 := Nat.mul_le_mul (by omega) (by rw [strOfNums_size]; omega)
      rw [strOfNums_size]
      omega
    have k4 : (strOfNums (prF s (s.size / 2)) ++ strOfNums (deepL d (strOfNums (prC s (s.size / 2))))).size ≤ 3600 := by rw [ByteArray.size_append]; omega
    clear hpl
    generalize strOfNums (deepL d (strOfNums (prC s (s.size / 2)))) = rC at HC1 HE k2 k4
    generalize strOfNums (deepL d (strOfNums (prE s (s.size / 2)))) = rE at HC2 HE k3
    generalize strOfNums (prF s (s.size / 2)) = sF at HSp HE k1 k4
    generalize strOfNums (prC s (s.size / 2)) = sC at HSp HC1
    generalize strOfNums (prE s (s.size / 2)) = sE at HSp HC2
    have hz : (((d + 1 : Nat) : Int) == 0) = false := by simp; omega
    have hd1 : ((d + 1 : Nat) : Int) - 1 = (d : Nat) := by omega
    clear ih hs hbC hbE
    go_enter Try.func50, Try.ntmps50
    go_wp2_with fail
    refine (HSp.out _).mono ?_
    rintro e w1 ⟨rfl, hb⟩
    have HB1 := Lib.hid hb
    clear hb
    go_wp2_with fail
    refine (HC1.out _).mono ?_
    rintro e w2 ⟨rfl, hb⟩
    have HB2 := Lib.hid (HB1.out.trans (hb.mono HB1.out.size))
    clear hb
    go_wp2_with fail
    refine (HC2.out _).mono ?_
    rintro e w3 ⟨rfl, hb⟩
    have HB3 := Lib.hid (HB2.out.trans (hb.mono HB2.out.size))
    clear hb
    go_wp2
    go_ret
    exact ⟨by rw [← HE.out]; rfl, HB3.out⟩
theorem specFD_yes (s : ByteArray) (d : Nat) (w : World) (hs : BitsP s) (hd : d ≤ 8) :
    Calls Try.prog 23 #[.string s, .int .i64 d] w fun e w' => e = .returned (.tuple #[.string (strOfNums (deepL d s)), .bool true]) ∧ Below w.heap.size w w' := by
  have HS := Lib.hid hs
  clear hs
  go_enter Try.func23, Try.ntmps23
  go_wp2_with fail
  refine (l01Bits_yes s _ HS.out).mono ?_
  rintro e w1 ⟨rfl, rfl⟩
  go_wp2_with fail
  refine (l00In_yes d 0 8 _ (by omega) (by omega)).mono ?_
  rintro e w1 ⟨rfl, rfl⟩
  go_wp2_with fail
  refine (specDeep_any d s _ hd HS.out).mono ?_
  rintro e w1 ⟨rfl, hb⟩
  go_wp2
  go_ret2
  exact ⟨rfl, hb⟩
theorem specFD_no (s : ByteArray) (d : Int) (w : World) (hm : s.size ≤ maxLen) (h : ¬ (BitsP s ∧ 0 ≤ d ∧ d ≤ 8)) :
    Calls Try.prog 23 #[.string s, .int .i64 d] w fun e w' => e = .returned (.tuple #[.string ⟨#[]⟩, .bool false]) ∧ Below w.heap.size w w' := by
  by_cases hs : BitsP s
  · have HN : Hid (∀ W : World, Calls Try.prog 39 #[.int .i64 d, .int .i64 0, .int .i64 8] W fun e w' => e = .returned (.bool false) ∧ W = w') := fun W => l00In_no d 0 8 W fun x => h ⟨hs, x⟩
    have HS := Lib.hid hs
    clear h hs
    go_enter Try.func23, Try.ntmps23
    go_wp2_with fail
    refine (l01Bits_yes s _ HS.out).mono ?_
    rintro e w1 ⟨rfl, rfl⟩
    go_wp2_with fail
    refine (HN.out _).mono ?_
    rintro e w1 ⟨rfl, rfl⟩
    go_wp2
    go_ret2
    exact ⟨rfl, Below.refl _ _⟩
  · have HN : Hid (∀ W : World, Calls Try.prog 35 #[.string s] W fun e w' => e = .returned (.bool false) ∧ W = w') := fun W => l01Bits_no s W hm hs
    clear h hs
    go_enter Try.func23, Try.ntmps23
    go_wp2_with fail
    refine (HN.out _).mono ?_
    rintro e w1 ⟨rfl, rfl⟩
    go_wp2
    go_ret2
    exact ⟨rfl, Below.refl _ _⟩
theorem lawFD_core (s : ByteArray) (d : Int) (w : World) (hl : s.size ≤ 1048576) (x : ByteArray) (ok : Bool)
    (HS : Hid (∀ W : World, Calls Try.prog 23 #[.string s, .int .i64 d] W fun e w' => e = .returned (.tuple #[.string x, .bool ok]) ∧ Below W.heap.size W w'))
    (HI : Hid (∀ W : World, Calls Try.prog 24 #[.string s, .int .i64 d] W fun e w' => e = .returned (.tuple #[.string x, .bool ok]) ∧ Below W.heap.size W w')) :
    Calls Try.prog 8 #[.string s, .int .i64 d] w fun e w' => e = .returned (.bool true) ∧ Below w.heap.size w w' := by
  have h3 : (ok != ok) = false := by simp
  go_enter Try.func8, Try.ntmps8
  go_wp2_with fail
  refine (HS.out _).mono ?_
  rintro e w1 ⟨rfl, hb⟩
  have B := hb
  clear hb
  go_wp2_with fail
  refine (HI.out _).mono ?_
  rintro e w2 ⟨rfl, hb⟩
  replace B := B.trans (hb.mono B.size)
  clear hb
  go_wp2
  go_ret
  exact ⟨rfl, B⟩
theorem lawFD (s : ByteArray) (d : Int) (w : World) (hm : s.size ≤ maxLen) :
    Calls Try.prog 8 #[.string s, .int .i64 d] w fun e w' => e = .returned (.bool true) ∧ Below w.heap.size w w' := by
  by_cases hl : s.size ≤ 1048576
  · by_cases h : BitsP s ∧ 0 ≤ d ∧ d ≤ 8
    · obtain ⟨m, rfl⟩ := Int.eq_ofNat_of_zero_le h.2.1
      exact lawFD_core s m w hl _ true (fun W => specFD_yes s m W h.1 (by omega)) (fun W => deep_yes s m W h.1 (by omega))
    · exact lawFD_core s d w hl _ false (fun W => specFD_no s d W hm h) (fun W => deep_no s d W hm h)
  · unfold maxLen at hm
    go_enter Try.func8, Try.ntmps8
    go_wp2
    go_ret
    exact ⟨rfl, Below.refl _ _⟩
end Go.Proofs.Ytamedggnkbhgeab
