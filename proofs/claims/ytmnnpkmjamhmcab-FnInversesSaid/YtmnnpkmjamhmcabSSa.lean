/- Slices of slices of int64 in general: read, made, marked (laws.toInt64SS, eqInt64SS, szInt64SS, markInt64SS, heldInt64SS). -/
import Derived.Test.YtmnnpkmjamhmcabMix
import Derived.Test.YtmnnpkmjamhmcabRowC
import Derived.Test.YtmnnpkmjamhmcabAreB
namespace Go.Proofs.Ytmnnpkmjamhmcab
open Go.RowKit Go.PlainAid
set_option maxHeartbeats 1600000

/-- all blocks but those from lo on and below top are as they were -/
structure Chg (lo top : Nat) (w w1 : World) : Prop where
  os : w1.os = w.os
  tape : w1.tape = w.tape
  output : w1.output = w.output
  size : w.heap.size ≤ w1.heap.size
  block : ∀ q, q < w.heap.size → ¬ (lo ≤ q ∧ q < top) → w1.heap[q]? = w.heap[q]?
theorem Chg.refl (lo top : Nat) (w : World) : Chg lo top w w := ⟨rfl, rfl, rfl, Nat.le_refl _, fun _ _ _ => rfl⟩
theorem Chg.trans {lo top : Nat} {a b c : World} (h : Chg lo top a b) (k : Chg lo top b c) : Chg lo top a c :=
  ⟨k.os.trans h.os, k.tape.trans h.tape, k.output.trans h.output, Nat.le_trans h.size k.size, fun q h1 h2 => (k.block q (Nat.lt_of_lt_of_le h1 h.size) h2).trans (h.block q h1 h2)⟩
theorem Chg.of {w w1 : World} (h : Below w.heap.size w w1) (lo top : Nat) : Chg lo top w w1 := ⟨h.os, h.tape, h.output, h.size, fun q h1 _ => h.block q h1⟩
theorem Chg.grown {lo top : Nat} {w w1 : World} {row : Option Nat} (h : w.grownBy w1 row) (hr : ∀ g, row = some g → lo ≤ g ∧ g < top) : Chg lo top w w1 :=
  ⟨h.os, h.tape, h.output, h.size, fun q h1 h2 => h.block q h1 fun e => h2 (hr q e.symm)⟩
theorem below_chg {B lo top : Nat} {w0 w w1 : World} (h : Below B w0 w) (hc : Chg lo top w w1) (hB : B ≤ lo) (hs : B ≤ w.heap.size) : Below B w0 w1 :=
  h.trans ⟨hc.os, hc.tape, hc.output, hc.size, fun q hq => hc.block q (by omega) (by omega)⟩
theorem Chg.drewN {lo top : Nat} {w w1 : World} (h : Chg lo top w w1) (n : Nat) : Chg lo top w (w1.drewN n) := ⟨h.os, h.tape, h.output, h.size, h.block⟩

theorem RO.chg {t lo top : Nat} {w w1 : World} {a : Option Addr} {xs : List Int} (h : RO t w a xs) (hc : Chg lo top w w1) (h1 : t ≤ lo) (h2 : t ≤ w.heap.size) : RO t w1 a xs := fun i x hx => by
  obtain ⟨g, off, ha, hg, hcl⟩ := h i x hx
  exact ⟨g, off, ha, hg, (World.cell?_of_block (a := ⟨g, off + i, none⟩) (hc.block g (by omega) (by omega))).trans hcl⟩
/-- rows that are only read -/
def RR (top : Nat) (w : World) (a : Option Addr) (m : Nat) (f : Nat → List Int) : Prop :=
  ∀ d, d < m → ∃ g off b c, a = some ⟨g, off, none⟩ ∧ g < top ∧ w.cell? ⟨g, off + d, none⟩ = some (.slice b (f d).length c) ∧ (f d).length ≤ c ∧ RO top w b (f d)
theorem RR.below {top : Nat} {w w1 : World} {a : Option Addr} {m : Nat} {f : Nat → List Int} (h : RR top w a m f) (hb : Below top w w1) : RR top w1 a m f := fun d hd => by
  obtain ⟨g, off, b, c, ha, hg, hc, hl, hr⟩ := h d hd
  exact ⟨g, off, b, c, ha, hg, (hb.cell (p := ⟨g, off + d, none⟩) hg).trans hc, hl, hr.below hb⟩
theorem RR.up {top top' : Nat} {w : World} {a : Option Addr} {m : Nat} {f : Nat → List Int} (h : RR top w a m f) (ht : top ≤ top') : RR top' w a m f := fun d hd => by
  obtain ⟨g, off, b, c, ha, hg, hc, hl, hr⟩ := h d hd
  exact ⟨g, off, b, c, ha, by omega, hc, hl, hr.up ht⟩
theorem RR.drewN {top : Nat} {w : World} {a : Option Addr} {m : Nat} {f : Nat → List Int} (h : RR top w a m f) (n : Nat) : RR top (w.drewN n) a m f := h
theorem RR.far {w w1 : World} {a : Option Addr} {m : Nat} {f : Nat → List Int} (h : RR w.heap.size w a m f) (hb : Below w.heap.size w w1) : RR w1.heap.size w1 a m f := (h.below hb).up hb.size
theorem RR.chg {t lo top : Nat} {w w1 : World} {a : Option Addr} {m : Nat} {f : Nat → List Int} (h : RR t w a m f) (hc : Chg lo top w w1) (h1 : t ≤ lo) (h2 : t ≤ w.heap.size) : RR t w1 a m f := fun d hd => by
  obtain ⟨g, off, b, c, ha, hg, hcl, hl, hr⟩ := h d hd
  exact ⟨g, off, b, c, ha, hg, (World.cell?_of_block (a := ⟨g, off + d, none⟩) (hc.block g (by omega) (by omega))).trans hcl, hl, hr.chg hc h1 h2⟩
theorem RR.zero {top : Nat} {w : World} {a : Option Addr} {f : Nat → List Int} : RR top w a 0 f := fun d hd => by omega
theorem RR.get {top : Nat} {w : World} {a : Option Addr} {m : Nat} {f : Nat → List Int} (h : RR top w a m f) (hm : 0 < m) : ∃ g off, a = some ⟨g, off, none⟩ ∧ g < top ∧ ∀ d, d < m → ∃ b c, w.cell? ⟨g, off + d, none⟩ = some (.slice b (f d).length c) ∧ (f d).length ≤ c ∧ RO top w b (f d) := by
  obtain ⟨g, off, _, _, ha, hg, _⟩ := h 0 hm
  refine ⟨g, off, ha, hg, fun d hd => ?_⟩
  obtain ⟨g', off', b, c, ha', _, hc, hl, hr⟩ := h d hd
  rw [ha] at ha'
  cases ha'
  exact ⟨b, c, hc, hl, hr⟩

theorem SL.keep {base top : Nat} {w w1 : World} {v : Value} {xs : List Int} {row : Option Nat} (h : SL base top w v xs) (hg : w.grownBy w1 row) (ht : top ≤ w.heap.size) (hne : v.ownBlock = none ∨ v.ownBlock ≠ row) : SL base top w1 v xs := by
  rcases h with h | ⟨g, cap, rfl, h1, h2, h3, h4, h5⟩
  · exact .inl h
  · have hb := hg.block g (by omega) (by simpa [Value.ownBlock] using hne)
    exact .inr ⟨g, cap, rfl, h1, h2, h3, fun i hi => (World.cell?_of_block (a := ⟨g, i, none⟩) hb).trans (h4 i hi), fun i => (World.frozen?_of_block (a := ⟨g, i, none⟩) hb).trans (h5 i)⟩
theorem SL.chg {base top lo hi : Nat} {w w1 : World} {v : Value} {xs : List Int} (h : SL base top w v xs) (hc : Chg lo hi w w1) (ht : top ≤ w.heap.size) (hne : top ≤ lo ∨ hi ≤ base) : SL base top w1 v xs := by
  rcases h with h | ⟨g, cap, rfl, h1, h2, h3, h4, h5⟩
  · exact .inl h
  · have hb := hc.block g (by omega) (by omega)
    exact .inr ⟨g, cap, rfl, h1, h2, h3, fun i hi => (World.cell?_of_block (a := ⟨g, i, none⟩) hb).trans (h4 i hi), fun i => (World.frozen?_of_block (a := ⟨g, i, none⟩) hb).trans (h5 i)⟩
theorem SL.in {base top : Nat} {w : World} {v : Value} {xs : List Int} (h : SL base top w v xs) : ∀ g, v.ownBlock = some g → base ≤ g ∧ g < top := by
  intro g hg
  rcases h with ⟨rfl, _⟩ | ⟨g', cap, rfl, _, h2, h3, _⟩
  · simp [Value.ownBlock] at hg
  · simp [Value.ownBlock] at hg
    omega
/-- rows of one's own, no two of them in one block -/
def LW (lo top : Nat) (w : World) (v : Value) (m : Nat) (f : Nat → List Int) : Prop :=
  (v = .slice none 0 0 ∧ m = 0 ∧ top ≤ w.heap.size) ∨ ∃ g c, ∃ us : Nat → Value, v = .slice (some ⟨g, 0, none⟩) m c ∧ m ≤ c ∧ (lo ≤ g ∧ g < top) ∧ top ≤ w.heap.size ∧ (∀ d, d < m → w.cell? ⟨g, d, none⟩ = some (us d)) ∧ (∀ d, d < m → SL lo top w (us d) (f d)) ∧ (∀ d, d < m → (us d).ownBlock ≠ some g) ∧ ∀ d e, d < m → e < m → d ≠ e → (us d).ownBlock = none ∨ (us d).ownBlock ≠ (us e).ownBlock
theorem LW.top_le {lo top : Nat} {w : World} {v : Value} {m : Nat} {f : Nat → List Int} (h : LW lo top w v m f) : top ≤ w.heap.size := by
  rcases h with ⟨_, _, h⟩ | ⟨_, _, _, _, _, _, h, _⟩ <;> exact h
theorem LW.chg {lo top lo' top' : Nat} {w w1 : World} {v : Value} {m : Nat} {f : Nat → List Int} (h : LW lo top w v m f) (hc : Chg lo' top' w w1) (hne : top ≤ lo' ∨ top' ≤ lo) : LW lo top w1 v m f := by
  have hz := hc.size
  rcases h with ⟨rfl, h, h2⟩ | ⟨g, c, us, rfl, hmc, hg, ht, h1, h2, h3, h4⟩
  · exact .inl ⟨rfl, h, by omega⟩
  · exact .inr ⟨g, c, us, rfl, hmc, hg, by omega, fun d hd => (World.cell?_of_block (a := ⟨g, d, none⟩) (hc.block g (by omega) (by omega))).trans (h1 d hd), fun d hd => (h2 d hd).chg hc ht hne, h3, h4⟩
theorem LW.far {lo top : Nat} {w w1 : World} {v : Value} {m : Nat} {f : Nat → List Int} (h : LW lo top w v m f) (hb : Below w.heap.size w w1) : LW lo top w1 v m f := h.chg (Chg.of hb 0 0) (.inr (Nat.zero_le _))
theorem LW.drewN {lo top : Nat} {w : World} {v : Value} {m : Nat} {f : Nat → List Int} (h : LW lo top w v m f) (n : Nat) : LW lo top (w.drewN n) v m f := h
theorem LW.rr {lo top : Nat} {w : World} {v : Value} {m : Nat} {f : Nat → List Int} (h : LW lo top w v m f) : ∃ a c, v = .slice a m c ∧ m ≤ c ∧ RR top w a m f := by
  rcases h with ⟨rfl, rfl, h2⟩ | ⟨g, c, us, rfl, hmc, hg, ht, h1, h2, h3, h4⟩
  · exact ⟨none, 0, rfl, Nat.le_refl _, RR.zero⟩
  · refine ⟨_, c, rfl, hmc, fun d hd => ?_⟩
    have hs := h2 d hd
    have hc := h1 d hd
    obtain ⟨b, cb, e, hr⟩ := hs.ro
    refine ⟨g, 0, b, cb, rfl, hg.2, by rw [Nat.zero_add, hc, e], ?_, hr⟩
    rcases hs with ⟨e2, e3⟩ | ⟨g', cap, e2, h5, _⟩
    · rw [e3]; exact Nat.zero_le _
    · rw [e2] at e
      injection e with _ _ e
      omega

def szl (f : Nat → List Int) : Nat → Nat
  | 0 => 0
  | d + 1 => szl f d + (f d).length
theorem szl_mono {f : Nat → List Int} {a b : Nat} (h : a ≤ b) : szl f a ≤ szl f b := by
  induction b with
  | zero => obtain rfl : a = 0 := by omega
            exact Nat.le_refl _
  | succ b ih =>
    by_cases e : a = b + 1
    · subst e; exact Nat.le_refl _
    · have := ih (by omega)
      simp only [szl]; omega
theorem szl_at {f : Nat → List Int} {m d : Nat} (h : d < m) : (f d).length ≤ szl f m := by
  have := szl_mono (f := f) (show d + 1 ≤ m by omega)
  simp only [szl] at this
  omega
/-- the rows while they are marked: those before i are -/
def MW (lo top g m : Nat) (us : Nat → Value) (f : Nat → List Int) (k : Int) (w : World) (i : Nat) (wr : World) : Prop :=
  ((lo ≤ g ∧ g < top) ∧ top ≤ wr.heap.size) ∧ (∀ d, d < m → wr.cell? ⟨g, d, none⟩ = some (us d)) ∧ (∀ d, d < i → d < m → SL lo top wr (us d) (marks (k + szl f d) (f d).length)) ∧ (∀ d, i ≤ d → d < m → SL lo top wr (us d) (f d)) ∧
    ((∀ d, d < m → (us d).ownBlock ≠ some g) ∧ ∀ d e, d < m → e < m → d ≠ e → (us d).ownBlock = none ∨ (us d).ownBlock ≠ (us e).ownBlock) ∧ Chg lo top w wr
theorem MW.next {lo top g m : Nat} {us : Nat → Value} {f : Nat → List Int} {k : Int} {w : World} {i : Nat} {wr w' : World} (h : MW lo top g m us f k w i wr) (hi : i < m) (hs : SL lo top w' (us i) (marks (k + szl f i) (f i).length)) (hg : wr.grownBy w' (us i).ownBlock) : MW lo top g m us f k w (i + 1) w' := by
  obtain ⟨⟨hlo, htz⟩, hc, h1, h2, ⟨h3, h4⟩, hb⟩ := h
  have hB := (h2 i (Nat.le_refl _) hi).in
  have hz := hg.size
  have same : ∀ d, d < m → d ≠ i → ∀ xs, SL lo top wr (us d) xs → SL lo top w' (us d) xs := fun d hd hne xs hx => hx.keep hg htz (h4 d i hd hi hne)
  refine ⟨⟨hlo, by omega⟩, fun d hd => ?_, fun d hd hdm => ?_, fun d hd hdm => ?_, ⟨h3, h4⟩, hb.trans (Chg.grown hg hB)⟩
  · rw [World.cell?_of_block (a := ⟨g, d, none⟩) (hg.block g (by omega) (h3 i hi).symm)]
    exact hc d hd
  · by_cases e : d = i
    · subst e; exact hs
    · exact same d hdm e _ (h1 d (by omega) hdm)
  · exact same d hdm (by omega) _ (h2 d (by omega) hdm)
/-- rows that came in -/
theorem RR.of_open {w : World} {base : Nat} (x : Addr) (len cap : Nat) (A : Nat → Option Addr) (L C : Nat → Nat) (Z : Nat → List Int) (hl : len ≤ cap) (hm : cap ≤ maxLen)
    (hx : ∀ r, r < cap → w.cell? (x.add r) = some (.slice (A r) (L r) (C r)) ∧ L r ≤ C r ∧ C r ≤ maxLen ∧ (Z r).length = C r ∧ (∀ n ∈ Z r, (Lit.int .i64 n).wf = true) ∧ (A r = none → C r = 0) ∧ ∀ a', A r = some a' → base ≤ a'.block ∧ ∀ c, c < C r → w.cell? (a'.add c) = some (.int .i64 ((Z r).getD c 0))) :
    ∃ zs : Nat → List Int, RR w.heap.size w (some x) len zs ∧ len ≤ maxLen ∧ ∀ d, (zs d).length ≤ maxLen := by
  have each : ∀ r, ∃ ys : List Int, (r < len → ys.length = L r ∧ RO w.heap.size w (A r) ys) ∧ ys.length ≤ maxLen := by
    intro r
    by_cases hr : r < len
    · obtain ⟨_, h1, h2, h3, h4, h5, h6⟩ := hx r (by omega)
      have hin : RowIn .i64 w (A r) (L r) (Z r) := by
        cases ha : A r with
        | none =>
          have := h5 ha
          exact .inl ⟨rfl, by omega⟩
        | some a' =>
          obtain ⟨_, h7⟩ := h6 a' ha
          exact .inr ⟨a', rfl, by omega, by omega, fun i hi => h7 i (by omega), h4⟩
      obtain ⟨ys, hy, hro⟩ := hin.ro
      exact ⟨ys, fun _ => ⟨hy, hro⟩, by omega⟩
    · exact ⟨[], fun h => absurd h hr, Nat.zero_le _⟩
  refine ⟨fun r => Classical.choose (each r), fun d hd => ?_, by omega, fun d => (Classical.choose_spec (each d)).2⟩
  obtain ⟨hy, hro⟩ := (Classical.choose_spec (each d)).1 hd
  obtain ⟨hc, h1, h2, _⟩ := hx d (by omega)
  obtain ⟨b, o, s⟩ := x
  have hs : s = none := by simpa [Addr.add] using World.cell?_spot (hx 0 (by omega)).1
  subst hs
  rw [Go.WideShapes.add_plain] at hc
  refine ⟨b, o, A d, C d, rfl, ?_, ?_, ?_, hro⟩
  · have := cell_in hc
    simpa using this
  · show _ = some (Value.slice (A d) (Classical.choose (each d)).length (C d))
    rw [hy, hc]
  · show (Classical.choose (each d)).length ≤ C d
    rw [hy]; exact h1
theorem markW_any (v : Value) (m : Nat) (f : Nat → List Int) (lo top : Nat) (w : World) (h : LW lo top w v m f) (hm : m + szl f m ≤ 1048576) :
    Calls Try.prog 25 #[v, .int .i64 1] w fun e w' => e = .returned (.int .i64 (1 + (szl f m : Nat))) ∧ LW lo top w' v m (fun d => marks (1 + szl f d) (f d).length) ∧ Chg lo top w w' := by
  rcases h with ⟨rfl, rfl, h⟩ | ⟨g, c, us, rfl, hmc, hg, ht, h1, h2, h3, h4⟩
  · have HH := Lib.hid h
    clear h
    go_enter Try.func25, Try.ntmps25
    go_wp2
    refine wp_loop_rounds 1 ?_
    rw [rounds_succ]
    go_wp2
    go_ret
    exact ⟨by simp [szl], .inl ⟨rfl, rfl, HH.out⟩, Chg.refl _ _ _⟩
  · have HM0 : Hid (MW lo top g m us f 1 w 0 w) := ⟨⟨hg, ht⟩, h1, fun d hd => by omega, fun d _ hd => h2 d hd, ⟨h3, h4⟩, Chg.refl _ _ _⟩
    have HZ : Hid (∀ d, d ≤ m → szl f d + m ≤ 1048576) := fun d hd => by have := szl_mono (f := f) hd; omega
    have HL : Hid (∀ d, d < m → (f d).length ≤ 1048576) := fun d hd => by have := szl_at (f := f) hd; omega
    have hmm : m ≤ 1048576 := by omega
    have HMC := Lib.hid hmc
    clear hg ht h1 h2 h3 h4 hm hmc
    go_enter Try.func25, Try.ntmps25
    go_wp2_with fail
    go_loopw [1, 5] (fun kv iv wr => ∃ i : Nat, i ≤ m ∧ iv = .int .i64 i ∧ kv = .int .i64 (1 + (szl f i : Nat)) ∧ Hid (MW lo top g m us f 1 w i wr)) (fun _ iv _ => m - (intOf iv).toNat)
    case atStart => exact ⟨0, Nat.zero_le _, rfl, by simp [szl], HM0⟩
    case round =>
      obtain ⟨i, hi, rfl, rfl, HM⟩ := hrel
      clear HM0
      by_cases hlt : i < m
      · have hc := HM.out.2.1 i hlt
        have hz := HZ.out i (by omega)
        have HC : Hid (∀ W : World, W = wr → Calls Try.prog 61 #[us i, .int .i64 (1 + (szl f i : Nat))] W fun e w' => e = .returned (.int .i64 (1 + (szl f (i + 1) : Nat))) ∧ MW lo top g m us f 1 w (i + 1) w') := fun W hW => by
          subst hW
          refine (mark64_any (us i) (f i) lo top (1 + (szl f i : Nat)) W (HM.out.2.2.2.1 i (Nat.le_refl _) hlt) (HL.out i hlt) (by omega) (by omega)).mono ?_
          rintro e w' ⟨rfl, hs, hg⟩
          exact ⟨by rw [szl]; congr 2; omega, HM.out.next hlt hs hg⟩
        go_wp2_with fail
        refine (HC.out _ rfl).mono ?_
        rintro e w5 ⟨rfl, hmk⟩
        have HM5 := Lib.hid hmk
        clear hmk
        go_wp2
        go_roundw
        case rel => exact ⟨i + 1, by omega, by go_num, rfl, HM5⟩
        case measure => simp [intOf]; omega
      · obtain rfl : i = m := by omega
        go_wp2
        go_ret
        obtain ⟨⟨g1, g2⟩, g6, g7, _, ⟨g3, g4⟩, g9⟩ := HM.out
        exact ⟨rfl, .inr ⟨g, c, us, rfl, HMC.out, g1, g2, g6, fun d hd => g7 d hd hd, g3, g4⟩, g9⟩
theorem heldW_any (v : Value) (m : Nat) (f : Nat → List Int) (lo top : Nat) (w : World) (h : LW lo top w v m (fun d => marks (1 + szl f d) (f d).length)) (hm : m + szl f m ≤ 1048576) :
    Calls Try.prog 26 #[v, .int .i64 1] w fun e w' => e = .returned (.int .i64 (1 + (szl f m : Nat))) ∧ w = w' := by
  rcases h with ⟨rfl, rfl, h⟩ | ⟨g, c, us, rfl, hmc, hg, ht, h1, h2, h3, h4⟩
  · clear h
    go_enter Try.func26, Try.ntmps26
    go_wp2
    refine wp_loop_rounds 1 ?_
    rw [rounds_succ]
    go_wp2
    go_ret
    exact ⟨by simp [szl], rfl⟩
  · have H1 := Lib.hid h1
    have H2 := Lib.hid h2
    have HZ : Hid (∀ d, d ≤ m → szl f d + m ≤ 1048576) := fun d hd => by have := szl_mono (f := f) hd; omega
    have HL : Hid (∀ d, d < m → (f d).length ≤ 1048576) := fun d hd => by have := szl_at (f := f) hd; omega
    have hmm : m ≤ 1048576 := by omega
    clear hg ht h1 h2 h3 h4 hm hmc
    go_enter Try.func26, Try.ntmps26
    go_wp2_with fail
    go_loopw [1, 5] (fun kv iv wr => ∃ i : Nat, i ≤ m ∧ iv = .int .i64 i ∧ kv = .int .i64 (1 + (szl f i : Nat)) ∧ w = wr) (fun _ iv _ => m - (intOf iv).toNat)
    case atStart => exact ⟨0, Nat.zero_le _, rfl, by simp [szl], rfl⟩
    case round =>
      obtain ⟨i, hi, rfl, rfl, rfl⟩ := hrel
      by_cases hlt : i < m
      · have hc := H1.out i hlt
        have hs := H2.out i hlt
        have hz := HZ.out i (by omega)
        have hz2 := HZ.out (i + 1) (by omega)
        have HC : Hid (Calls Try.prog 62 #[us i, .int .i64 (1 + (szl f i : Nat))] w fun e w' => e = .returned (.int .i64 (1 + (szl f (i + 1) : Nat))) ∧ w = w') := by
          refine (held64_any (us i) (f i).length lo top (1 + (szl f i : Nat)) w hs (HL.out i hlt) (by omega) (by omega)).mono ?_
          rintro e w' ⟨rfl, rfl⟩
          exact ⟨by rw [szl]; congr 2; omega, rfl⟩
        have hnn : decide (1 + ((szl f (i + 1) : Nat) : Int) < 0) = false := by simp; omega
        clear hs
        go_wp2_with fail
        refine (HC.out).mono ?_
        rintro e w5 ⟨rfl, rfl⟩
        go_wp2
        go_roundw
        case rel => exact ⟨i + 1, by omega, by go_num, rfl, trivial⟩
        case measure => simp [intOf]; omega
      · obtain rfl : i = m := by omega
        go_wp2
        go_ret
        exact ⟨rfl, rfl⟩
theorem eqRO_yes (a b : Option Addr) (n ca cb : Nat) (xs : List Int) (t1 t2 : Nat) (w : World) (h1 : RO t1 w a xs) (h2 : RO t2 w b xs) (hn : xs.length = n) (hl : n ≤ 1048576) :
    Calls Try.prog 60 #[.slice a n ca, .slice b n cb] w fun e w' => e = .returned (.bool true) ∧ Below w.heap.size w w' := by
  have H1 := Lib.hid h1
  have H2 := Lib.hid h2
  have HN := Lib.hid hn
  have hne : ((n : Int) != (n : Int)) = false := by simp
  clear h1 h2 hn
  go_enter Try.func60, Try.ntmps60
  go_wp2
  go_loopw [5] (fun i wr => ∃ k j : Nat, k ≤ n ∧ i = .int .i64 k ∧ wr = w.drewN j) (fun i _ => n - (intOf i).toNat)
  case atStart => exact ⟨0, 0, Nat.zero_le _, rfl, rfl⟩
  case round =>
    obtain ⟨k, j, hk, rfl, rfl⟩ := hrel
    by_cases hlt : k < n
    · obtain ⟨x, hx⟩ : ∃ x, xs[k]? = some x := ⟨_, List.getElem?_eq_getElem (by have := HN.out; omega)⟩
      obtain ⟨g1, o1, rfl, hg1, c1⟩ := H1.out k x hx
      obtain ⟨g2, o2, rfl, hg2, c2⟩ := H2.out k x hx
      have hxx : (x != x) = false := by simp
      clear hx
      go_wp2
      go_quiet (fail)
      go_wp2
      go_roundw
      case rel => exact ⟨k + 1, j + nq, by omega, by go_num, rfl⟩
      case measure => simp [intOf]; omega
    · go_wp2
      go_ret
      exact ⟨rfl, below_drewN (Below.refl _ _) j⟩
theorem eqRR_yes (a1 a2 : Option Addr) (m c1 c2 : Nat) (f : Nat → List Int) (t1 t2 : Nat) (w : World) (h1 : RR t1 w a1 m f) (h2 : RR t2 w a2 m f) (ht1 : t1 ≤ w.heap.size) (ht2 : t2 ≤ w.heap.size) (hm : m + szl f m ≤ 1048576) :
    Calls Try.prog 22 #[.slice a1 m c1, .slice a2 m c2] w fun e w' => e = .returned (.bool true) ∧ Below w.heap.size w w' := by
  have K1 := Lib.hid (h1.up ht1)
  have K2 := Lib.hid (h2.up ht2)
  have HL : Hid (∀ d, d < m → (f d).length ≤ 1048576) := fun d hd => by have := szl_at (f := f) hd; omega
  have hmm : m ≤ 1048576 := by omega
  clear h1 h2 hm ht1 ht2
  go_enter Try.func22, Try.ntmps22
  go_wp2
  go_loopw [5] (fun iv wr => ∃ i : Nat, i ≤ m ∧ iv = .int .i64 i ∧ Below w.heap.size w wr) (fun iv _ => m - (intOf iv).toNat)
  case atStart => exact ⟨0, Nat.zero_le _, rfl, Below.refl _ _⟩
  case round =>
    obtain ⟨i, hi, rfl, B⟩ := hrel
    by_cases hlt : i < m
    · obtain ⟨g1, o1, b1, d1, rfl, hg1, hc1, _, hs1⟩ := K1.out i hlt
      obtain ⟨g2, o2, b2, d2, rfl, hg2, hc2, _, hs2⟩ := K2.out i hlt
      replace hs1 := hs1.below B
      replace hs2 := hs2.below B
      replace hc1 := (B.cell (p := ⟨g1, o1 + i, none⟩) hg1).trans hc1
      replace hc2 := (B.cell (p := ⟨g2, o2 + i, none⟩) hg2).trans hc2
      have z := B.size
      generalize hfl : (f i).length = n at hc1 hc2
      have hn := HL.out i hlt
      rw [hfl] at hn
      have HQ : Hid (∀ q : GR wr.drew none, Calls Try.prog 60 #[.slice b1 n d1, .slice b2 n d2] q.w fun e w' => e = .returned (.bool true) ∧ Below q.w.heap.size q.w w') := fun q => by
        have hB : Below w.heap.size wr q.w := ((Below.refl _ wr).grown (gr_undrew q.h) (Nat.le_refl _) (by simp)).mono z
        exact eqRO_yes b1 b2 n d1 d2 (f i) _ _ q.w (hs1.below hB) (hs2.below hB) hfl hn
      have q0 : ∀ q : GR wr.drew none, q.w.cell? ⟨g1, o1 + i, none⟩ = some (.slice b1 n d1) := fun q => gt_cell (W0 := wr.drew) hc1 ⟨q.w, (Below.refl _ wr.drew).grown q.h (Nat.le_refl _) (by simp)⟩
      have q1 : ∀ q : GR wr.drew none, q.w.cell? ⟨g2, o2 + i, none⟩ = some (.slice b2 n d2) := fun q => gt_cell (W0 := wr.drew) hc2 ⟨q.w, (Below.refl _ wr.drew).grown q.h (Nat.le_refl _) (by simp)⟩
      clear hs1 hs2 hc1 hc2 hfl hn hg1 hg2
      go_wp2
      refine wp_region_mix (none) [0, 1, 2, 3, 4, 5, 6, 7, 8, 9] [] (by kernel_rfl) (by kernel_rfl) ?_
      simp only [pickOps, List.filterMap_cons, List.filterMap_nil, List.getElem?_toArray, List.getElem?_cons_succ, List.getElem?_cons_zero]
      repeat (refine wpQuietG_step (fun K hK => ?_); go_simp; first | (refine hK _ ?_; clear hK K) | (apply Exists.intro; refine ⟨fun _ => ?_, hK _ ?_⟩; (first | (with_reducible exact HQ.out _)); clear hK K))
      refine wpQuietG_nil ?_
      clear q0 q1
      intro W2 hW1 hW2
      replace hW1 := gr_undrew hW1
      replace B := B.grown hW1 B.size (by simp)
      clear hW1 hW2
      go_wp2
      go_roundw
      case rel => exact ⟨i + 1, by omega, by go_num, B⟩
      case measure => first | (simp [intOf]; done) | (simp [intOf]; omega)
    · obtain rfl : i = m := by omega
      go_wp2
      go_ret
      exact ⟨rfl, B⟩
theorem sz64_any (a : Option Addr) (n c : Nat) (left : Int) (w : World) (h0 : 0 ≤ left) (h1 : left ≤ 1048576) (hn : n ≤ maxLen) (t : Int) (ht : t = if left - n < 0 then -1 else left - n) :
    Calls Try.prog 63 #[.slice a n c, .int .i64 left] w fun e w' => e = .returned (.int .i64 t) ∧ w = w' := by
  unfold maxLen at hn
  have w1 : IntKind.i64.wrap (left - n) = left - n := IntWalk.i64_in _ (by omega)
  by_cases h : left - n < 0
  · rw [if_pos h] at ht
    subst ht
    go_enter Try.func63, Try.ntmps63
    go_wp2
    go_ret
    exact ⟨rfl, rfl⟩
  · rw [if_neg h] at ht
    subst ht
    go_enter Try.func63, Try.ntmps63
    go_wp2
    go_ret
    exact ⟨rfl, rfl⟩
/-- the rest of 2^20 behind a list of rows, or -1 -/
def left2 (m : Nat) (f : Nat → List Int) : Int := if m + szl f m ≤ 1048576 then 1048576 - ((m + szl f m : Nat) : Int) else -1
theorem szSS_any (a : Option Addr) (m cap : Nat) (f : Nat → List Int) (w : World) (h : RR w.heap.size w a m f) (hm : m ≤ maxLen) (hL : ∀ d, (f d).length ≤ maxLen) :
    Calls Try.prog 27 #[.slice a m cap, .int .i64 1048576] w fun e w' => e = .returned (.int .i64 (left2 m f)) ∧ w = w' := by
  have HR := Lib.hid h
  have HLL := Lib.hid hL
  have hm2 : m ≤ 9223372036854775807 := by unfold maxLen at hm; omega
  have w1 : IntKind.i64.wrap (1048576 - (m : Int)) = 1048576 - (m : Int) := IntWalk.i64_in _ (by omega)
  clear h hL hm
  by_cases hb : (1048576 : Int) - m < 0
  · have e : left2 m f = -1 := by unfold left2; rw [if_neg (by omega)]
    rw [e]
    clear e
    go_enter Try.func27, Try.ntmps27
    go_wp2
    go_ret
    exact ⟨rfl, rfl⟩
  · go_enter Try.func27, Try.ntmps27
    go_wp2
    go_loopw [1, 5] (fun kv iv wr => ∃ i : Nat, i ≤ m ∧ iv = .int .i64 i ∧ kv = .int .i64 (1048576 - ((m + szl f i : Nat) : Int)) ∧ m + szl f i ≤ 1048576 ∧ w = wr) (fun _ iv _ => m - (intOf iv).toNat)
    case atStart => exact ⟨0, Nat.zero_le _, rfl, by simp [szl], by simp [szl]; omega, rfl⟩
    case round =>
      obtain ⟨i, hi, rfl, rfl, hs, rfl⟩ := hrel
      by_cases hlt : i < m
      · obtain ⟨g, off, b, c, rfl, hg, hc, _, _⟩ := HR.out i hlt
        have hl := HLL.out i
        have HE : Hid (szl f (i + 1) = szl f i + (f i).length) := by unfold Hid; rw [szl]
        have HT : Hid (szl f (i + 1) ≤ szl f m) := szl_mono (by omega)
        generalize (f i).length = n at hc hl HE
        obtain ⟨s, hse⟩ : ∃ s, szl f i = s := ⟨_, rfl⟩
        rw [hse] at hs HE ⊢
        clear hse
        by_cases hbad : (1048576 : Int) - ((m + s : Nat) : Int) - n < 0
        · have HS : Hid (∀ W : World, Calls Try.prog 63 #[.slice b n c, .int .i64 (1048576 - ((m + s : Nat) : Int))] W fun e w' => e = .returned (.int .i64 (-1)) ∧ W = w') := fun W => sz64_any b n c _ W (by omega) (by omega) hl _ (by rw [if_pos hbad])
          have HF : Hid (left2 m f = -1) := by
            unfold Hid left2
            rw [if_neg]
            have := HE.out
            have := HT.out
            omega
          clear hbad hl hs
          go_wp2_with fail
          refine (HS.out _).mono ?_
          rintro e w1 ⟨rfl, rfl⟩
          go_wp2
          go_ret
          exact ⟨by rw [HF.out]; rfl, rfl⟩
        · have HS : Hid (∀ W : World, Calls Try.prog 63 #[.slice b n c, .int .i64 (1048576 - ((m + s : Nat) : Int))] W fun e w' => e = .returned (.int .i64 (1048576 - ((m + szl f (i + 1) : Nat) : Int))) ∧ W = w') := fun W => sz64_any b n c _ W (by omega) (by omega) hl _ (by rw [if_neg hbad, HE.out]; omega)
          have hs2 : m + szl f (i + 1) ≤ 1048576 := by rw [HE.out]; omega
          clear hbad hl hs
          have hnn : decide ((1048576 : Int) - ((m + szl f (i + 1) : Nat) : Int) < 0) = false := by simp; omega
          go_wp2_with fail
          refine (HS.out _).mono ?_
          rintro e w1 ⟨rfl, rfl⟩
          go_wp2
          go_roundw
          case rel => exact ⟨i + 1, by omega, by go_num, rfl, hs2, trivial⟩
          case measure => simp [intOf]; omega
      · obtain rfl : i = m := by omega
        have HF : Hid (left2 i f = 1048576 - ((i + szl f i : Nat) : Int)) := by unfold Hid left2; rw [if_pos hs]
        go_wp2
        go_ret
        exact ⟨by rw [HF.out]; rfl, rfl⟩
end Go.Proofs.Ytmnnpkmjamhmcab
