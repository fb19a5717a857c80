/- Slices of slices of numbers under a law: eqInt64SS, markInt64SS, heldInt64SS. -/
import Derived.Test.YtjbojamhnapkpabSlice64
import Derived.Test.YtjbojamhnapkpabMix
namespace Go.Proofs.Ytjbojamhnapkpab
open Go.RowKit Go.PlainAid
set_option maxHeartbeats 1000000

theorem SL.same {base top : Nat} {w w1 : World} {v : Value} {xs : List Int} (h : SL base top w v xs) (e : ∀ g, base ≤ g → g < top → w1.heap[g]? = w.heap[g]?) : SL base top w1 v xs := by
  rcases h with h | ⟨g, cap, rfl, h1, h2, h3, h4, h5⟩
  · exact .inl h
  · exact .inr ⟨g, cap, rfl, h1, h2, h3, fun i hi => (World.cell?_of_block (a := ⟨g, i, none⟩) (e g h2 h3)).trans (h4 i hi), fun i => (World.frozen?_of_block (a := ⟨g, i, none⟩) (e g h2 h3)).trans (h5 i)⟩
theorem SL.low {base base' top : Nat} {w : World} {v : Value} {xs : List Int} (h : SL base top w v xs) (hb : base' ≤ base) : SL base' top w v xs := by
  rcases h with h | ⟨g, cap, rfl, h1, h2, h3, h4, h5⟩
  · exact .inl h
  · exact .inr ⟨g, cap, rfl, h1, by omega, h3, h4, h5⟩
/-- a slice of m rows in blocks from lo on and below top -/
def LL (lo top : Nat) (w : World) (v : Value) (m : Nat) (f : Nat → List Int) : Prop :=
  (v = .slice none 0 0 ∧ m = 0) ∨ ∃ g c, v = .slice (some ⟨g, 0, none⟩) m c ∧ g < top ∧ ∀ d, d < m → ∃ u, w.cell? ⟨g, d, none⟩ = some u ∧ SL lo top w u (f d)
theorem LL.below {lo top : Nat} {w w1 : World} {v : Value} {m : Nat} {f : Nat → List Int} (h : LL lo top w v m f) (hb : Below top w w1) : LL lo top w1 v m f := by
  rcases h with h | ⟨g, c, rfl, hg, h⟩
  · exact .inl h
  · refine .inr ⟨g, c, rfl, hg, fun d hd => ?_⟩
    obtain ⟨u, hu, hr⟩ := h d hd
    exact ⟨u, (hb.cell (p := ⟨g, d, none⟩) hg).trans hu, hr.below hb⟩
/-- a slice of m rows, each in blocks of its own, all behind the block of the slice -/
def LD (lo top : Nat) (w : World) (v : Value) (m : Nat) (f : Nat → List Int) : Prop :=
  (v = .slice none 0 0 ∧ m = 0) ∨ ∃ g c, ∃ bs : Nat → Nat, v = .slice (some ⟨g, 0, none⟩) m c ∧ lo ≤ g ∧ g < bs 0 ∧ (∀ d, bs d ≤ bs (d + 1)) ∧ bs m ≤ top ∧ top ≤ w.heap.size ∧ ∀ d, d < m → ∃ u, w.cell? ⟨g, d, none⟩ = some u ∧ SL (bs d) (bs (d + 1)) w u (f d)
theorem mono_le {bs : Nat → Nat} (h : ∀ d, bs d ≤ bs (d + 1)) {a b : Nat} (hab : a ≤ b) : bs a ≤ bs b := by
  induction b with
  | zero => obtain rfl : a = 0 := by omega
            exact Nat.le_refl _
  | succ b ih =>
    by_cases e : a = b + 1
    · subst e; exact Nat.le_refl _
    · exact Nat.le_trans (ih (by omega)) (h b)
theorem LD.ll {lo top : Nat} {w : World} {v : Value} {m : Nat} {f : Nat → List Int} (h : LD lo top w v m f) : LL lo top w v m f := by
  rcases h with h | ⟨g, c, bs, rfl, h1, h2, h3, h4, h5, h6⟩
  · exact .inl h
  · have h0 := mono_le h3 (Nat.zero_le m)
    refine .inr ⟨g, c, rfl, by omega, fun d hd => ?_⟩
    obtain ⟨u, hu, hr⟩ := h6 d hd
    have e1 := mono_le h3 (Nat.zero_le d)
    have e2 := mono_le h3 (show d + 1 ≤ m by omega)
    exact ⟨u, hu, (hr.up (by omega)).low (by omega)⟩
theorem LD.below {lo top : Nat} {w w1 : World} {v : Value} {m : Nat} {f : Nat → List Int} (h : LD lo top w v m f) (hb : Below top w w1) : LD lo top w1 v m f := by
  rcases h with h | ⟨g, c, bs, rfl, h1, h2, h3, h4, h5, h6⟩
  · exact .inl h
  · have h0 := mono_le h3 (Nat.zero_le m)
    refine .inr ⟨g, c, bs, rfl, h1, h2, h3, h4, Nat.le_trans h5 hb.size, fun d hd => ?_⟩
    obtain ⟨u, hu, hr⟩ := h6 d hd
    have e2 := mono_le h3 (show d + 1 ≤ m by omega)
    exact ⟨u, (hb.cell (p := ⟨g, d, none⟩) (by show g < top; omega)).trans hu, hr.below (hb.mono (by omega))⟩
theorem LD.same {lo top : Nat} {w w1 : World} {v : Value} {m : Nat} {f : Nat → List Int} (h : LD lo top w v m f) (hz : w.heap.size ≤ w1.heap.size) (e : ∀ q, lo ≤ q → q < top → w1.heap[q]? = w.heap[q]?) : LD lo top w1 v m f := by
  rcases h with h | ⟨g, c, bs, rfl, h1, h2, h3, h4, h5, h6⟩
  · exact .inl h
  · have h0 := mono_le h3 (Nat.zero_le m)
    refine .inr ⟨g, c, bs, rfl, h1, h2, h3, h4, by omega, fun d hd => ?_⟩
    obtain ⟨u, hu, hr⟩ := h6 d hd
    have e1 := mono_le h3 (Nat.zero_le d)
    have e2 := mono_le h3 (show d + 1 ≤ m by omega)
    exact ⟨u, (World.cell?_of_block (a := ⟨g, d, none⟩) (e g h1 (by omega))).trans hu, hr.same fun q q1 q2 => e q (by omega) (by omega)⟩
theorem SL.narrow {base top base' top' : Nat} {w : World} {v : Value} {xs : List Int} (h : SL base top w v xs) (e : ∀ g, v.ownBlock = some g → base' ≤ g ∧ g < top') : SL base' top' w v xs := by
  rcases h with h | ⟨g, cap, rfl, h1, h2, h3, h4, h5⟩
  · exact .inl h
  · obtain ⟨e1, e2⟩ := e g (by simp [Value.ownBlock])
    exact .inr ⟨g, cap, rfl, h1, e1, e2, h4, h5⟩
def sz (f : Nat → List Int) : Nat → Nat
  | 0 => 0
  | d + 1 => sz f d + (f d).length
theorem eqSS_yes (v1 v2 : Value) (m : Nat) (f : Nat → List Int) (l1 t1 l2 t2 : Nat) (w : World) (h1 : LL l1 t1 w v1 m f) (h2 : LL l2 t2 w v2 m f) (ht1 : t1 ≤ w.heap.size) (ht2 : t2 ≤ w.heap.size) (hm : m ≤ 1048576) (hf : ∀ d, (f d).length ≤ 1048576) :
    Calls Try.prog 33 #[v1, v2] w fun e w' => e = .returned (.bool true) ∧ Below w.heap.size w w' := by
  have key : ∀ p1 p2 : Option Addr, ∀ c1 c2 : Nat, (∀ d, d < m → ∃ g u, p1 = some ⟨g, 0, none⟩ ∧ g < t1 ∧ w.cell? ⟨g, d, none⟩ = some u ∧ SL l1 t1 w u (f d)) → (∀ d, d < m → ∃ g u, p2 = some ⟨g, 0, none⟩ ∧ g < t2 ∧ w.cell? ⟨g, d, none⟩ = some u ∧ SL l2 t2 w u (f d)) →
      Calls Try.prog 33 #[.slice p1 m c1, .slice p2 m c2] w fun e w' => e = .returned (.bool true) ∧ Below w.heap.size w w' := by
    intro p1 p2 c1 c2 k1 k2
    have K1 := Lib.hid k1
    have K2 := Lib.hid k2
    have HF := Lib.hid hf
    clear k1 k2 hf h1 h2
    go_enter Try.func33, Try.ntmps33
    go_wp2
    go_loopw [5] (fun iv wr => ∃ i : Nat, i ≤ m ∧ iv = .int .i64 i ∧ Below w.heap.size w wr) (fun iv _ => m - (intOf iv).toNat)
    case atStart => exact ⟨0, Nat.zero_le _, rfl, Below.refl _ _⟩
    case round =>
      obtain ⟨i, hi, rfl, B⟩ := hrel
      by_cases hlt : i < m
      · obtain ⟨g1, u1, rfl, hg1, hc1, hs1⟩ := K1.out i hlt
        obtain ⟨g2, u2, rfl, hg2, hc2, hs2⟩ := K2.out i hlt
        replace hs1 := hs1.below (B.mono ht1)
        replace hs2 := hs2.below (B.mono ht2)
        replace hc1 := (B.cell (p := ⟨g1, i, none⟩) (by show g1 < w.heap.size; omega)).trans hc1
        replace hc2 := (B.cell (p := ⟨g2, i, none⟩) (by show g2 < w.heap.size; omega)).trans hc2
        have z := B.size
        have HE : Hid (∀ W : World, Below w.heap.size wr W → Calls Try.prog 18 #[u1, u2] W fun e w' => e = .returned (.bool true) ∧ Below W.heap.size W w') := fun W hW => by
          refine (eq64_yes u1 u2 (f i) _ _ _ _ _ (hs1.below (hW.mono ht1)) (hs2.below (hW.mono ht2)) (HF.out i)).mono ?_
          rintro e w' ⟨rfl, j, rfl⟩
          exact ⟨rfl, below_drewN (Below.refl _ _) j⟩
        have q0 : ∀ q : GR wr.drew none, q.w.cell? ⟨g1, i, none⟩ = some u1 := fun q => gt_cell (W0 := wr.drew) hc1 ⟨q.w, (Below.refl _ wr.drew).grown q.h (Nat.le_refl _) (by simp)⟩
        have q1 : ∀ q : GR wr.drew none, q.w.cell? ⟨g2, i, none⟩ = some u2 := fun q => gt_cell (W0 := wr.drew) hc2 ⟨q.w, (Below.refl _ wr.drew).grown q.h (Nat.le_refl _) (by simp)⟩
        have HQ : Hid (∀ q : GR wr.drew none, Calls Try.prog 18 #[u1, u2] q.w fun e w' => e = .returned (.bool true) ∧ Below q.w.heap.size q.w w') := fun q => HE.out q.w (((Below.refl _ wr).grown (gr_undrew q.h) (Nat.le_refl _) (by simp)).mono z)
        clear hs1 hs2 hc1 hc2 HE
        go_wp2
        refine wp_region_mix (none) [0, 1, 2, 3, 4, 5, 6, 7, 8, 9] [] (by kernel_rfl) (by kernel_rfl) ?_
        simp only [pickOps, List.filterMap_cons, List.filterMap_nil, List.getElem?_toArray, List.getElem?_cons_succ, List.getElem?_cons_zero]
        repeat (refine wpQuietG_step (fun K hK => ?_); go_simp; first | (refine hK _ ?_; clear hK K) | (apply Exists.intro; refine ⟨fun _ => ?_, hK _ ?_⟩; (first | (with_reducible exact HQ.out _)); clear hK K))
        refine wpQuietG_nil ?_
        clear q0 q1
        intro W2 hW1 hW2
        replace hW1 := gr_undrew hW1
        replace B := B.grown hW1 B.size (by simp)
        clear hW1 hW2
        go_wp2
        go_roundw
        case rel => exact ⟨i + 1, by omega, by go_num, B⟩
        case measure => first | (simp [intOf]; done) | (simp [intOf]; omega)
      · obtain rfl : i = m := by omega
        go_wp2
        go_ret
        exact ⟨rfl, B⟩
  have look : ∀ v lo top, LL lo top w v m f → ∃ p c, v = .slice p m c ∧ ∀ d, d < m → ∃ g u, p = some ⟨g, 0, none⟩ ∧ g < top ∧ w.cell? ⟨g, d, none⟩ = some u ∧ SL lo top w u (f d) := by
    rintro v lo top (⟨rfl, rfl⟩ | ⟨g, c, rfl, hg, h⟩)
    · exact ⟨none, 0, rfl, fun d hd => by omega⟩
    · exact ⟨_, c, rfl, fun d hd => by obtain ⟨u, hu, hr⟩ := h d hd; exact ⟨g, u, rfl, hg, hu, hr⟩⟩
  obtain ⟨p1, c1, rfl, k1⟩ := look _ _ _ h1
  obtain ⟨p2, c2, rfl, k2⟩ := look _ _ _ h2
  exact key p1 p2 c1 c2 k1 k2
theorem SL.blockT {base top : Nat} {w : World} {v : Value} {xs : List Int} (h : SL base top w v xs) : ∀ g, v.ownBlock = some g → base ≤ g ∧ g < top := by
  intro g hg
  rcases h with ⟨rfl, _⟩ | ⟨g', cap, rfl, _, h2, h3, _⟩
  · simp [Value.ownBlock] at hg
  · simp [Value.ownBlock] at hg
    omega
/-- the rows while they are marked: those before i are -/
def MK (lo top g m : Nat) (bs : Nat → Nat) (us : Nat → Value) (f : Nat → List Int) (w : World) (i : Nat) (wr : World) : Prop :=
  ((lo ≤ g ∧ g < bs 0) ∧ (∀ d, bs d ≤ bs (d + 1)) ∧ bs m ≤ top ∧ top ≤ wr.heap.size) ∧ (∀ d, d < m → wr.cell? ⟨g, d, none⟩ = some (us d)) ∧ (∀ d, d < i → d < m → SL (bs d) (bs (d + 1)) wr (us d) (marks (1 + sz f d) (f d).length)) ∧ (∀ d, i ≤ d → d < m → SL (bs d) (bs (d + 1)) wr (us d) (f d)) ∧ Below lo w wr
theorem MK.next {lo top g m : Nat} {bs : Nat → Nat} {us : Nat → Value} {f : Nat → List Int} {w : World} {i : Nat} {wr w' : World} (h : MK lo top g m bs us f w i wr) (hi : i < m) (hs : SL (bs i) (bs (i + 1)) w' (us i) (marks (1 + sz f i) (f i).length)) (hg : wr.grownBy w' (us i).ownBlock) : MK lo top g m bs us f w (i + 1) w' := by
  obtain ⟨⟨⟨hlo, hg0⟩, hmono, hmt, htz⟩, hc, h1, h2, hb⟩ := h
  have hB := (h2 i (Nat.le_refl _) hi).blockT
  have hz := hg.size
  have e0 := mono_le hmono (Nat.zero_le i)
  have e1 := mono_le hmono (show i + 1 ≤ m by omega)
  have same : ∀ d, d < m → d ≠ i → ∀ q, bs d ≤ q → q < bs (d + 1) → w'.heap[q]? = wr.heap[q]? := by
    intro d hd hne q hq1 hq2
    have e2 := mono_le hmono (show d + 1 ≤ m by omega)
    refine hg.block q (by omega) (fun e => ?_)
    obtain ⟨x1, x2⟩ := hB q e.symm
    rcases Nat.lt_or_gt_of_ne hne with hlt | hlt
    · have := mono_le hmono (show d + 1 ≤ i by omega)
      omega
    · have := mono_le hmono (show i + 1 ≤ d by omega)
      omega
  refine ⟨⟨⟨hlo, hg0⟩, hmono, hmt, by omega⟩, fun d hd => ?_, fun d hd hdm => ?_, fun d hd hdm => ?_, ?_⟩
  · rw [World.cell?_of_block (a := ⟨g, d, none⟩) (hg.block g (by have := mono_le hmono (Nat.zero_le m); omega) (fun e => by have := hB g e.symm; omega))]
    exact hc d hd
  · by_cases e : d = i
    · subst e; exact hs
    · exact (h1 d (by omega) hdm).same (same d hdm e)
  · exact (h2 d (by omega) hdm).same (same d hdm (by omega))
  · exact hb.grown hg (by have := mono_le hmono (Nat.zero_le m); omega) (fun q e => by have := hB q e; omega)
theorem sz_le {f : Nat → List Int} (hf : ∀ d, (f d).length ≤ 16) : ∀ d, sz f d ≤ d * 16 := by
  intro d
  induction d with
  | zero => simp [sz]
  | succ d ih => have := hf d; simp only [sz]; omega
theorem markSS_any (v : Value) (m : Nat) (f : Nat → List Int) (lo top : Nat) (w : World) (h : LD lo top w v m f) (hm : m ≤ 13) (hf : ∀ d, (f d).length ≤ 16) :
    Calls Try.prog 34 #[v, .int .i64 1] w fun e w' => e = .returned (.int .i64 (1 + (sz f m : Nat))) ∧ LD lo top w' v m (fun d => marks (1 + sz f d) (f d).length) ∧ Below lo w w' := by
  rcases h with ⟨rfl, rfl⟩ | ⟨g, c, bs, rfl, h1, h2, h3, h4, h5, h6⟩
  · go_enter Try.func34, Try.ntmps34
    go_wp2
    refine wp_loop_rounds 1 ?_
    rw [rounds_succ]
    go_wp2
    go_ret
    exact ⟨by simp [sz], .inl ⟨rfl, rfl⟩, Below.refl _ _⟩
  · obtain ⟨us, hus⟩ : ∃ us : Nat → Value, ∀ d, d < m → w.cell? ⟨g, d, none⟩ = some (us d) ∧ SL (bs d) (bs (d + 1)) w (us d) (f d) := by
      refine ⟨fun d => (w.cell? ⟨g, d, none⟩).getD undef, fun d hd => ?_⟩
      obtain ⟨u, hu, hr⟩ := h6 d hd
      have e : (w.cell? ⟨g, d, none⟩).getD undef = u := by rw [hu]; rfl
      show w.cell? ⟨g, d, none⟩ = some ((w.cell? ⟨g, d, none⟩).getD undef) ∧ SL (bs d) (bs (d + 1)) w ((w.cell? ⟨g, d, none⟩).getD undef) (f d)
      rw [e]
      exact ⟨hu, hr⟩
    have HM0 : Hid (MK lo top g m bs us f w 0 w) := ⟨⟨⟨h1, h2⟩, h3, h4, h5⟩, fun d hd => (hus d hd).1, fun d hd => by omega, fun d _ hd => (hus d hd).2, Below.refl _ _⟩
    have HF := Lib.hid hf
    have hsz := sz_le hf
    have HZ := Lib.hid hsz
    clear h1 h2 h3 h4 h5 h6 hus hf hsz
    go_enter Try.func34, Try.ntmps34
    go_wp2_with fail
    go_loopw [1, 5] (fun kv iv wr => ∃ i : Nat, i ≤ m ∧ iv = .int .i64 i ∧ kv = .int .i64 (1 + (sz f i : Nat)) ∧ Hid (MK lo top g m bs us f w i wr)) (fun _ iv _ => m - (intOf iv).toNat)
    case atStart => exact ⟨0, Nat.zero_le _, rfl, by simp [sz], HM0⟩
    case round =>
      obtain ⟨i, hi, rfl, rfl, HM⟩ := hrel
      clear HM0
      by_cases hlt : i < m
      · have hc := HM.out.2.1 i hlt
        have hz := HZ.out i
        have HC : Hid (∀ W : World, W = wr → Calls Try.prog 19 #[us i, .int .i64 (1 + (sz f i : Nat))] W fun e w' => e = .returned (.int .i64 (1 + (sz f (i + 1) : Nat))) ∧ MK lo top g m bs us f w (i + 1) w') := fun W hW => by
          subst hW
          refine (mark64_any (us i) (f i) (bs i) (bs (i + 1)) (1 + (sz f i : Nat)) W (HM.out.2.2.2.1 i (Nat.le_refl _) hlt) (by have := HF.out i; omega) (by omega) (by omega)).mono ?_
          rintro e w' ⟨rfl, hs, hg⟩
          exact ⟨by rw [sz]; congr 2; omega, HM.out.next hlt hs hg⟩
        go_wp2_with fail
        refine (HC.out _ rfl).mono ?_
        rintro e w5 ⟨rfl, hmk⟩
        have HM5 := Lib.hid hmk
        clear hmk
        go_wp2
        go_roundw
        case rel => exact ⟨i + 1, by omega, by go_num, rfl, HM5⟩
        case measure => simp [intOf]; omega
      · obtain rfl : i = m := by omega
        go_wp2
        go_ret
        obtain ⟨⟨⟨g1, g2⟩, g3, g4, g5⟩, g6, g7, _, g9⟩ := HM.out
        exact ⟨rfl, .inr ⟨g, c, bs, rfl, g1, g2, g3, g4, g5, fun d hd => ⟨us d, g6 d hd, g7 d hd hd⟩⟩, g9⟩
theorem heldSS_any (v : Value) (m : Nat) (f : Nat → List Int) (lo top : Nat) (w : World) (h : LL lo top w v m (fun d => marks (1 + sz f d) (f d).length)) (hm : m ≤ 13) (hf : ∀ d, (f d).length ≤ 16) :
    Calls Try.prog 35 #[v, .int .i64 1] w fun e w' => e = .returned (.int .i64 (1 + (sz f m : Nat))) ∧ w = w' := by
  rcases h with ⟨rfl, rfl⟩ | ⟨g, c, rfl, h1, h6⟩
  · go_enter Try.func35, Try.ntmps35
    go_wp2
    refine wp_loop_rounds 1 ?_
    rw [rounds_succ]
    go_wp2
    go_ret
    exact ⟨by simp [sz], rfl⟩
  · have H6 := Lib.hid h6
    have HF := Lib.hid hf
    have hsz := sz_le hf
    have HZ := Lib.hid hsz
    clear h1 h6 hf hsz
    go_enter Try.func35, Try.ntmps35
    go_wp2_with fail
    go_loopw [1, 5] (fun kv iv wr => ∃ i : Nat, i ≤ m ∧ iv = .int .i64 i ∧ kv = .int .i64 (1 + (sz f i : Nat)) ∧ w = wr) (fun _ iv _ => m - (intOf iv).toNat)
    case atStart => exact ⟨0, Nat.zero_le _, rfl, by simp [sz], rfl⟩
    case round =>
      obtain ⟨i, hi, rfl, rfl, rfl⟩ := hrel
      by_cases hlt : i < m
      · obtain ⟨u, hc, hs⟩ := H6.out i hlt
        have hz := HZ.out i
        have hz2 := HZ.out (i + 1)
        have HC : Hid (Calls Try.prog 20 #[u, .int .i64 (1 + (sz f i : Nat))] w fun e w' => e = .returned (.int .i64 (1 + (sz f (i + 1) : Nat))) ∧ w = w') := by
          refine (held64_any u (f i).length lo top (1 + (sz f i : Nat)) w hs (by have := HF.out i; omega) (by omega) (by omega)).mono ?_
          rintro e w' ⟨rfl, rfl⟩
          exact ⟨by rw [sz]; congr 2; omega, rfl⟩
        have hnn : decide (1 + ((sz f (i + 1) : Nat) : Int) < 0) = false := by simp; omega
        clear hs
        go_wp2_with fail
        refine (HC.out).mono ?_
        rintro e w5 ⟨rfl, rfl⟩
        go_wp2
        go_roundw
        case rel => exact ⟨i + 1, by omega, by go_num, rfl, trivial⟩
        case measure => simp [intOf]; omega
      · obtain rfl : i = m := by omega
        go_wp2
        go_ret
        exact ⟨rfl, rfl⟩
end Go.Proofs.Ytjbojamhnapkpab
