/- The leaves of a tree in the code: impl.TreeLeaves. -/
import Derived.Test.YtamedggnkbhgeaaDoorLev
namespace Go.Proofs.YtamedggnkbhgeaaDoor
open Go.RowKit Go.PlainAid
set_option maxHeartbeats 1000000

theorem Tryd.info24 : (Tryd.prog.info? 24).map (fun i => (i.zero, i.size, i.bytes)) = some (some (.slice none 0 0), 1, 24) := by kernel_rfl
/-- the faces among the first i whose weight has the bit sh -/
def lvs (xs : List Int) (sh : Nat) : Nat → List Int
  | 0 => []
  | i + 1 => if (xs.getD i 0).toNat.testBit sh = true then lvs xs sh i ++ [(i : Int)] else lvs xs sh i
theorem lvs_len (xs : List Int) (sh : Nat) : ∀ i, (lvs xs sh i).length ≤ i := by
  intro i
  induction i with
  | zero => simp [lvs]
  | succ i ih =>
    simp only [lvs]
    split
    · rw [List.length_append, List.length_singleton]; omega
    · omega
/-- the faces of all levels -/
def lvl (xs : List Int) (k : Nat) (m : Nat) : List (List Int) := (List.range m).map fun d => lvs xs (k - d) xs.length
theorem lvl_get {xs : List Int} {k m d : Nat} (h : d < m) : (lvl xs k m)[d]? = some (lvs xs (k - d) xs.length) := by simp [lvl, h]
theorem toList_madeCells_one' {m : Nat} {l : List Value} (h : l = (madeCells #[Value.slice none 0 0] m).toList) : l = List.replicate m (.slice none 0 0) := by
  rw [h, toList_madeCells_one]
def RowI (B : Nat) (w : World) (v : Value) (l : List Int) : Prop := w.ownsRow B 2 1 v l.length (l.map (Value.int .i64))
theorem rowI_has {B : Nat} {w : World} {v : Value} {l : List Int} (h : RowI B w v l) {g : Nat} (hg : v.ownBlock = some g) : B ≤ g ∧ ∃ cur, w.heap[g]? = some (.cells cur 2 (0, 0)) := by
  rcases h.2 with ⟨rfl, _⟩ | ⟨g', cap, cur, rfl, hb, hh, _⟩
  · simp [Value.ownBlock] at hg
  · simp [Value.ownBlock] at hg
    subst hg
    exact ⟨hb, cur, hh⟩
theorem rowI_lower {B B' : Nat} {w : World} {v : Value} {l : List Int} (h : RowI B' w v l) (hB : B ≤ B') : RowI B w v l := by
  obtain ⟨h1, h2 | ⟨g, cap, cur, hv, hg, r⟩⟩ := h
  · exact ⟨h1, .inl h2⟩
  · exact ⟨h1, .inr ⟨g, cap, cur, hv, by omega, r⟩⟩
/-- a row stands where a block of slices changes -/
theorem rowI_kept {B g : Nat} {w w' : World} {v : Value} {l : List Int} {cs : Array Value} (h : RowI B w v l) (hg : w.grownBy w' (some g)) (hh : w.heap[g]? = some (.cells cs 24 (0, 0))) : RowI B w' v l := by
  refine World.ownsRow.kept h hg ?_
  cases hv : v.ownBlock with
  | none => exact .inl rfl
  | some b =>
    refine .inr fun e => ?_
    obtain ⟨_, cur, h2⟩ := rowI_has h hv
    have := Option.some.inj e
    subst this
    rw [hh] at h2
    simp at h2
theorem heap_set {w : World} {g d : Nat} {cs : Array Value} {t : TypeId} {fr : Nat × Nat} {v : Value} (h : w.heap[g]? = some (.cells cs t fr)) : (w.setCell ⟨g, d, none⟩ v).heap[g]? = some (.cells (cs.setIfInBounds d v) t fr) := by
  simp [World.setCell, Array.getElem?_modify, h]
/-- rows for the first L levels, none behind them, each in blocks of its own -/
def LvAt (B : Nat) (w : World) (cs : Array Value) (xs : List Int) (k L : Nat) : Prop :=
  cs.size = k + 1 ∧ (∀ d, d < L → ∃ v, cs[d]? = some v ∧ RowI B w v (lvs xs (k - d) xs.length)) ∧ (∀ d, L ≤ d → d < k + 1 → cs[d]? = some (.slice none 0 0)) ∧
  ∃ bs : Nat → Nat, B < bs 0 ∧ (∀ d, bs d ≤ bs (d + 1)) ∧ bs L ≤ w.heap.size ∧ ∀ d v, d < L → cs[d]? = some v → ∀ gb, v.ownBlock = some gb → bs d ≤ gb ∧ gb < bs (d + 1)
/-- the value of the leaves -/
def LvV (B : Nat) (w : World) (g : Nat) (xs : List Int) (k : Nat) : Prop := g = B ∧ ∃ cs, w.heap[g]? = some (.cells cs 24 (0, 0)) ∧ LvAt B w cs xs k (k + 1)
theorem LvAt.next {B : Nat} {W0 wr : World} {cs cs' : Array Value} {xs : List Int} {k L : Nat} {v : Value} (HA : LvAt B W0 cs xs k L) (hc : cs'.size = k + 1 ∧ cs'[L]? = some v ∧ ∀ d, d ≠ L → cs'[d]? = cs[d]?) (HRow : RowI W0.heap.size wr v (lvs xs (k - L) xs.length)) (hG : W0.grownBy wr (some B)) (hh : W0.heap[B]? = some (.cells cs 24 (0, 0))) : LvAt B wr cs' xs k (L + 1) := by
  obtain ⟨s1, s2, s3⟩ := hc
  obtain ⟨_, q2, q3, bs, b0, bm, bL, bb⟩ := HA
  have hz := hG.size
  have hB : B < W0.heap.size := (Array.getElem?_eq_some_iff.1 hh).1
  refine ⟨s1, fun d hd => ?_, fun d hd hd2 => by rw [s3 d (by omega)]; exact q3 d (by omega) hd2, fun d => if d ≤ L then bs d else wr.heap.size, by simpa using b0, fun d => ?_, Nat.le_of_eq (if_neg (by omega)), fun d u hd hu gb hg => ?_⟩
  · by_cases hdL : d = L
    · subst hdL
      exact ⟨v, s2, rowI_lower HRow (by omega)⟩
    · obtain ⟨u, hu, hr⟩ := q2 d (by omega)
      exact ⟨u, by rw [s3 d hdL]; exact hu, rowI_kept hr hG hh⟩
  · show (if d ≤ L then bs d else wr.heap.size) ≤ (if d + 1 ≤ L then bs (d + 1) else wr.heap.size)
    by_cases h1 : d + 1 ≤ L
    · rw [if_pos h1, if_pos (by omega)]; exact bm d
    · rw [if_neg h1]
      by_cases h2 : d ≤ L
      · obtain rfl : d = L := by omega
        rw [if_pos h2]; omega
      · rw [if_neg h2]; exact Nat.le_refl _
  · show (if d ≤ L then bs d else wr.heap.size) ≤ gb ∧ gb < (if d + 1 ≤ L then bs (d + 1) else wr.heap.size)
    by_cases hdL : d = L
    · subst hdL
      rw [if_pos (Nat.le_refl _), if_neg (by omega)]
      obtain rfl : u = v := by rw [s2] at hu; exact (Option.some.inj hu).symm
      obtain ⟨h3, cur, h4⟩ := rowI_has HRow hg
      exact ⟨by omega, (Array.getElem?_eq_some_iff.1 h4).1⟩
    · rw [if_pos (by omega), if_pos (by omega)]
      rw [s3 d hdL] at hu
      exact bb d u (by omega) hu gb hg
theorem grow_app {W0 wr w6 : World} {g : Nat} {o : Obj} {ob : Option Nat} (h : W0.grownBy wr (some g)) (hg : (wr.alloc o).grownBy w6 ob) (hob : ∀ b, ob = some b → W0.heap.size ≤ b) : W0.grownBy w6 (some g) := by
  have z1 := h.size
  have z2 := hg.size
  rw [World.size_alloc] at z2
  refine ⟨hg.os.trans h.os, hg.tape.trans h.tape, hg.output.trans h.output, by omega, fun k hk hne => ?_⟩
  rw [hg.block k (by rw [World.size_alloc]; omega) (fun e => by have := hob k e.symm; omega), Lib.alloc_old wr o k (by omega)]
  exact h.block k hk hne
theorem and_oneT (q : Int) : bits .and .i64 q 1 = q % 2 := by
  have h1 : (BitVec.ofInt 64 1).toNat = 2 ^ 1 - 1 := by decide
  have key : (BitVec.ofInt 64 q &&& BitVec.ofInt 64 1).toNat = (q % ((2 ^ 64 : Nat) : Int)).toNat % 2 ^ 1 := by
    rw [BitVec.toNat_and, BitVec.toNat_ofInt, h1, Nat.and_two_pow_sub_one_eq_mod]
  show IntKind.i64.wrap ((BitVec.ofInt 64 q &&& BitVec.ofInt 64 1).toNat : Nat) = q % 2
  rw [key, IntKind.wrap_i64]
  omega
theorem bit_testT (b k : Nat) : (bits .and .i64 ((b : Int) / 2 ^ k) 1 == 1) = b.testBit k := by
  have e : (b : Int) / 2 ^ k = ((b / 2 ^ k : Nat) : Int) := by simp
  rw [and_oneT, e, Nat.testBit_eq_decide_div_mod_eq]
  rcases (show b / 2 ^ k % 2 = 0 ∨ b / 2 ^ k % 2 = 1 by omega) with h | h
  · rw [h, show ((b / 2 ^ k : Nat) : Int) % 2 = 0 by omega]; rfl
  · rw [h, show ((b / 2 ^ k : Nat) : Int) % 2 = 1 by omega]; rfl
theorem leaves_yes (a : Option Addr) (n cap : Nat) (xs : List Int) (TB k : Nat) (w : World) (h : RO w.heap.size w a xs) (hT : Tz TB w) (hn : xs.length = n) (hl : n ≤ 1048576) (hD : DyP xs k) :
    Calls Tryd.prog 11 #[.slice a n cap] w fun e w' => ∃ g c : Nat, e = .returned (.tuple #[.slice (some ⟨g, 0, none⟩) (k + 1) c, .bool true]) ∧ LvV w.heap.size w' g xs k ∧ Below w.heap.size w w' := by
  obtain ⟨i0, hi, hz0, hz1, hz2⟩ := info_parts Tryd.info24
  obtain ⟨i1, hi1, hy0, hy1, hy2⟩ := info_parts Tryd.info2
  have HL := Lib.hid (levels_yes a n cap xs TB k w h hT hn hl hD)
  have HR := Lib.hid h
  have HN := Lib.hid hn
  have hk := hD.1
  have hn16 : n ≤ 16 := by have := hD.2.1.1; omega
  have HW := Lib.hid hD.2.1
  clear h hT hn hD
  go_enter Tryd.func11, Tryd.ntmps11
  go_wp2_with fail
  refine (HL.out).mono ?_
  rintro e w1 ⟨rfl, rfl⟩
  go_wp2_with (at_make; refine wpList_make_full _ rfl _ _ 30 rfl w.heap.size 24 i0 _ 1 Tryd.underlying30 hi hz0 hz1 _ _ _ _ (k + 1) rfl rfl (by omega) (by omega) (by rw [hz2]; omega) (by unfold maxLen; omega) (Nat.le_refl _) ?_)
  intro w3 hown hgrow
  have HB3 : Hid (Below w.heap.size w w3) := (Below.refl w.heap.size w).grown hgrow (Nat.le_refl _) (by simp)
  obtain ⟨cs0, hh0, hat0⟩ : ∃ cs, w3.heap[w.heap.size]? = some (.cells cs 24 (0, 0)) ∧ LvAt w.heap.size w3 cs xs k 0 := by
    rcases hown.2 with ⟨h1, _⟩ | ⟨g, cap, cur, hv, hg, hh, _, _, hcs, htk⟩
    · cases h1
    · obtain ⟨rfl, rfl⟩ : w.heap.size = g ∧ k + 1 = cap := by simpa using hv
      refine ⟨cur, hh, by omega, fun d hd => by omega, fun d _ hd => ?_, fun _ => w3.heap.size, (Array.getElem?_eq_some_iff.1 hh).1, fun _ => Nat.le_refl _, Nat.le_refl _, fun d v hd => by omega⟩
      have h2 : cur.toList = List.replicate (k + 1) (.slice none 0 0) := by
        rw [List.take_of_length_le (by rw [Array.length_toList, hcs]; omega)] at htk
        exact toList_madeCells_one' htk
      rw [← Array.getElem?_toList, h2, List.getElem?_replicate, if_pos hd]
  have HH0 := Lib.hid hh0
  have HA0 := Lib.hid hat0
  have hg3 : w.heap.size < w3.heap.size := (Array.getElem?_eq_some_iff.1 hh0).1
  clear hown hgrow hh0 hat0
  go_wp2_with fail
  go_loopw [7, 8, 9, 22] (fun _ _ _ lv wr => ∃ (L : Nat) (cs : Array Value), L ≤ k + 1 ∧ lv = .int .i64 L ∧ Hid (wr.heap[w.heap.size]? = some (.cells cs 24 (0, 0))) ∧ Hid (LvAt w.heap.size wr cs xs k L) ∧ Hid (Below w.heap.size w wr)) (fun _ _ _ lv _ => k + 1 - (intOf lv).toNat)
  case atStart => exact ⟨0, cs0, Nat.zero_le _, rfl, HH0, HA0, HB3⟩
  case round =>
    obtain ⟨L, cs, hL, rfl, HH, HA, HB⟩ := hrel
    clear HH0 HA0 HB3 hg3
    have hgz : w.heap.size < wr.heap.size := (Array.getElem?_eq_some_iff.1 HH.out).1
    by_cases hlt : L < k + 1
    · obtain ⟨W0, rfl⟩ : ∃ W0, W0 = wr := ⟨_, rfl⟩
      have hsz := HA.out.1
      have hcsL := HA.out.2.2.1 L (Nat.le_refl _) hlt
      obtain ⟨sh, hsh⟩ : ∃ sh, k - L = sh := ⟨_, rfl⟩
      have hsub : ((k : Nat) : Int) - (L : Nat) = (sh : Nat) := by omega
      have hsh12 : sh ≤ 12 := by omega
      have hdec : decide ((L : Int) < (k : Int) + 1) = true := by simp; omega
      go_wp2_with fail
      go_loopw [8, 9, 27] (fun _ _ iv wr => ∃ (i : Nat) (cs' : Array Value) (v : Value), i ≤ n ∧ iv = .int .i64 i ∧ Hid (wr.heap[w.heap.size]? = some (.cells cs' 24 (0, 0))) ∧ Hid (cs'.size = k + 1 ∧ cs'[L]? = some v ∧ ∀ d, d ≠ L → cs'[d]? = cs[d]?) ∧ Hid (RowI W0.heap.size wr v (lvs xs sh i)) ∧ Hid (W0.grownBy wr (some w.heap.size))) (fun _ _ iv _ => n - (intOf iv).toNat)
      case atStart => exact ⟨0, cs, .slice none 0 0, Nat.zero_le _, rfl, HH, ⟨hsz, hcsL, fun _ _ => rfl⟩, ⟨by simp [lvs], .inl ⟨rfl, by simp [lvs]⟩⟩, World.grownBy.refl _ _⟩
      case round =>
        obtain ⟨i, cs', v, hi2, rfl, HH', HC', HRow, HG⟩ := hrel
        have hgr := HG.out.size
        by_cases hlt2 : i < n
        · obtain ⟨x, hx⟩ : ∃ x, xs[i]? = some x := ⟨_, List.getElem?_eq_getElem (by have := HN.out; omega)⟩
          obtain ⟨b0, off, rfl, hb0, hc0⟩ := HR.out i x hx
          have hx2 := HW.out.2 i x hx
          obtain ⟨X, rfl⟩ := Int.eq_ofNat_of_zero_le hx2.1
          have hcx : wr.cell? ⟨b0, off + i, none⟩ = some (.int .i64 X) := by
            rw [World.cell?_of_block (a := ⟨b0, off + i, none⟩) (HG.out.block b0 (by omega) (fun e => by have := Option.some.inj e; omega)), World.cell?_of_block (a := ⟨b0, off + i, none⟩) (HB.out.block b0 hb0)]
            exact hc0
          have hll := lvs_len xs sh i
          have HE : Hid (lvs xs sh (i + 1) = if X.testBit sh = true then lvs xs sh i ++ [(i : Int)] else lvs xs sh i) := by unfold Hid; rw [lvs, getD_of hx]; rfl
          have hbt := bit_testT X sh
          clear hx hc0
          cases hbb : X.testBit sh with
          | true =>
            rw [hbb] at hbt
            have HE2 : Hid (lvs xs sh (i + 1) = lvs xs sh i ++ [(i : Int)]) := by unfold Hid; rw [HE.out, if_pos hbb]
            have hcL : wr.cell? ⟨w.heap.size, L, none⟩ = some v := by rw [Lib.cell_of_heap HH'.out]; exact HC'.out.2.1
            clear hbb HE
            go_wp2_with (at_builtin; refine wpList_append_own _ rfl _ _ 24 rfl W0.heap.size 2 i1 (.int .i64 0) 1 8 Tryd.underlying24 hi1 hy0 hy1 hy2 rfl (by decide) _ _ _ rfl (World.ownsRow.alloc HRow.out _) ⟨wr.heap.size, 0, none⟩ 1 1 [.int .i64 i] rfl rfl (cell_one_new _ _ _) (by intro u hu; simp at hu; subst hu; rfl) (by unfold maxLen; omega) (by omega) (by first | (simp; done) | (simp; omega)) ?_)
            intro v1 w6 hown6 hgrow6 _
            obtain ⟨g1, cap1, rfl⟩ : ∃ g cap, v1 = .slice (some ⟨g, 0, none⟩) ((lvs xs sh i).length + 1) cap := by
              rcases hown6.2 with ⟨_, h0⟩ | ⟨g, cap, cur, hv, _⟩
              · omega
              · exact ⟨g, cap, hv⟩
            have hob := own_block HRow.out
            have h6 : w6.heap[w.heap.size]? = some (.cells cs' 24 (0, 0)) := (hgrow6.block w.heap.size (by rw [World.size_alloc]; omega) (fun e => by have := hob _ e.symm; omega)).trans ((Lib.alloc_old wr _ w.heap.size (by omega)).trans HH'.out)
            have d1 : w6.cell? ⟨w.heap.size, L, none⟩ = some v := by rw [Lib.cell_of_heap h6]; exact HC'.out.2.1
            have f1 : w6.frozen? ⟨w.heap.size, L, none⟩ = false := Lib.frozen_of_heap h6 L
            have hset : w6.grownBy (w6.setCell ⟨w.heap.size, L, none⟩ (.slice (some ⟨g1, 0, none⟩) ((lvs xs sh i).length + 1) cap1)) (some w.heap.size) := ⟨rfl, rfl, rfl, by simp [World.setCell], fun k _ hk => Below.heap_setCell _ _ _ _ (fun e => hk (by simp [e]))⟩
            have HF : Hid ((w6.setCell ⟨w.heap.size, L, none⟩ (.slice (some ⟨g1, 0, none⟩) ((lvs xs sh i).length + 1) cap1)).heap[w.heap.size]? = some (.cells (cs'.setIfInBounds L (.slice (some ⟨g1, 0, none⟩) ((lvs xs sh i).length + 1) cap1)) 24 (0, 0)) ∧
                ((cs'.setIfInBounds L (.slice (some ⟨g1, 0, none⟩) ((lvs xs sh i).length + 1) cap1)).size = k + 1 ∧ (cs'.setIfInBounds L (.slice (some ⟨g1, 0, none⟩) ((lvs xs sh i).length + 1) cap1))[L]? = some (.slice (some ⟨g1, 0, none⟩) ((lvs xs sh i).length + 1) cap1) ∧ ∀ d, d ≠ L → (cs'.setIfInBounds L (.slice (some ⟨g1, 0, none⟩) ((lvs xs sh i).length + 1) cap1))[d]? = cs[d]?) ∧
                RowI W0.heap.size (w6.setCell ⟨w.heap.size, L, none⟩ (.slice (some ⟨g1, 0, none⟩) ((lvs xs sh i).length + 1) cap1)) (.slice (some ⟨g1, 0, none⟩) ((lvs xs sh i).length + 1) cap1) (lvs xs sh (i + 1)) ∧ W0.grownBy (w6.setCell ⟨w.heap.size, L, none⟩ (.slice (some ⟨g1, 0, none⟩) ((lvs xs sh i).length + 1) cap1)) (some w.heap.size)) := by
              obtain ⟨s1, s2, s3⟩ := HC'.out
              refine ⟨heap_set h6, ⟨by simp [s1], ?_, fun d hd => ?_⟩, ?_, grow_trans (grow_app HG.out hgrow6 hob) hset⟩
              · rw [Array.getElem?_setIfInBounds_self_of_lt (by omega)]
              · rw [Array.getElem?_setIfInBounds_ne (fun e => hd e.symm)]
                exact s3 d hd
              · have h7 : RowI W0.heap.size w6 (.slice (some ⟨g1, 0, none⟩) ((lvs xs sh i).length + 1) cap1) (lvs xs sh (i + 1)) := by
                  unfold RowI
                  rw [HE2.out]
                  simpa using hown6
                exact rowI_kept h7 hset h6
            clear hown6 hgrow6 h6 hset hob hcL
            go_wp2
            go_roundw
            case rel => exact ⟨i + 1, _, _, by omega, by go_num, HF.out.1, HF.out.2.1, HF.out.2.2.1, HF.out.2.2.2⟩
            case measure => simp [intOf]; omega
          | false =>
            rw [hbb] at hbt
            have HE2 : Hid (lvs xs sh (i + 1) = lvs xs sh i) := by unfold Hid; rw [HE.out, if_neg (by rw [hbb]; decide)]
            clear hbb HE
            go_wp2
            go_roundw
            case rel => exact ⟨i + 1, cs', v, by omega, by go_num, HH', HC', by rw [HE2.out]; exact HRow, HG⟩
            case measure => simp [intOf]; omega
        · obtain rfl : i = n := by omega
          have HA2 : Hid (LvAt w.heap.size wr cs' xs k (L + 1)) := HA.out.next HC'.out (by rw [hsh, HN.out]; exact HRow.out) HG.out HH.out
          have HB2 : Hid (Below w.heap.size w wr) := HB.out.grown HG.out HB.out.size (by simp)
          go_wp2
          go_roundw
          case rel => exact ⟨L + 1, cs', by omega, by go_num, HH', HA2, HB2⟩
          case measure => simp [intOf]; omega
    · obtain rfl : L = k + 1 := by omega
      go_wp2
      go_ret2
      exact ⟨w.heap.size, k + 1, rfl, ⟨rfl, cs, HH.out, HA.out⟩, HB.out⟩
theorem leaves_no (a : Option Addr) (n cap : Nat) (xs : List Int) (TB : Nat) (w : World) (h : RO w.heap.size w a xs) (hT : Tz TB w) (hn : xs.length = n) (hl : n ≤ 1048576) (hD : ¬ ∃ k, DyP xs k) :
    Calls Tryd.prog 11 #[.slice a n cap] w fun e w' => e = .returned (.tuple #[.slice none 0 0, .bool false]) ∧ w = w' := by
  have HL := Lib.hid (levels_no a n cap xs TB w h hT hn hl hD)
  clear h hT hn hD
  go_enter Tryd.func11, Tryd.ntmps11
  go_wp2_with fail
  refine (HL.out).mono ?_
  rintro e w1 ⟨rfl, rfl⟩
  go_wp2
  go_ret2
  exact ⟨rfl, rfl⟩
end Go.Proofs.YtamedggnkbhgeaaDoor
