/- Linear machines: a run of steps: impl. -/
import Derived.Test.YtciofobedgmbjaaAM
import Derived.Defers
namespace Go.Proofs.Ytciofobedgmbjaa
open Go.RowKit Go.PlainAid
set_option maxHeartbeats 800000

theorem hasStL_any (x : Int) (a : Option Addr) (n c : Nat) (xs : List Int) (o s : Int) (b : Bool) (w : World) (h : RO w.heap.size w a xs) (hn : xs.length = n) (hl : n ≤ 1048576) (hb : b = true ↔ LinP x xs o ∧ InP x s) :
    Calls Try.prog 37 #[.agg #[.int .i64 x, .slice a n c, .int .i64 o], .int .i64 s] w fun e w' => e = .returned (.bool b) ∧ Below w.heap.size w w' := by
  have A0 := D3.new w (.int .i64 x) (.slice a n c) (.int .i64 o) 27
  have B0 : Below w.heap.size w (w.alloc (.cells #[.int .i64 x, .slice a n c, .int .i64 o] 27)) := (Below.refl _ _).alloc (Nat.le_refl _) _
  by_cases hp : LinP x xs o
  · have hV := Lib.hid (vlin_any x a n c xs o true _ ((h.below B0).up B0.size) hn hl ⟨fun _ => hp, fun _ => rfl⟩)
    have hW : (n : Int) = x := by rw [← hn]; exact hp.2.1
    subst hW
    have hn16 := hp.1
    have HS : Hid (∀ W : World, Calls Try.prog 33 #[.agg #[.int .i64 n, .slice a n c, .int .i64 o], .int .i64 s] W fun e w' => e = .returned (.bool b) ∧ Below W.heap.size W w') := fun W => isStL_b n _ o s b W (by omega) (by
      rw [Bool.eq_iff_iff, decide_eq_true_eq, hb]
      exact ⟨fun k => ⟨hp, k⟩, fun k => k.2⟩)
    clear h hn hb hp
    cases b
    all_goals
      go_enter Try.func37, Try.ntmps37
      go_wp2_with fail
      generalize w.alloc (.cells #[.int .i64 n, .slice a n c, .int .i64 o] 27) = w0 at A0 B0 hV ⊢
      refine (hV.out).mono ?_
      rintro e w1 ⟨rfl, hb1⟩
      obtain ⟨⟨x0, x1, x2⟩, _⟩ := A0.far hb1
      have HB := Lib.hid (B0.trans (hb1.mono B0.size))
      clear hb1 A0 B0 hV
      go_wp2_with fail
      refine (HS.out _).mono ?_
      rintro e w2 ⟨rfl, hb2⟩
      have HB2 := Lib.hid (HB.out.trans (hb2.mono HB.out.size))
      clear hb2 x0 x1 x2
      go_wp2
      go_ret
      exact ⟨rfl, HB2.out⟩
  · have hV := Lib.hid (vlin_any x a n c xs o false _ ((h.below B0).up B0.size) hn hl ⟨fun e => absurd e (by simp), fun k => absurd k hp⟩)
    obtain rfl : b = false := by
      cases b with
      | false => rfl
      | true => exact absurd (hb.1 rfl).1 hp
    clear h hn hb hp
    go_enter Try.func37, Try.ntmps37
    go_wp2_with fail
    refine (hV.out).mono ?_
    rintro e w1 ⟨rfl, hb1⟩
    have HB := Lib.hid (B0.trans (hb1.mono B0.size))
    clear hb1 A0 B0 hV
    go_wp2
    go_ret
    exact ⟨rfl, HB.out⟩
/-- a machine that runs: its rows, the mask of its output, its state -/
def LR (W : World) (b : Nat) (f : Nat → Nat) (o s : Nat) : Prop := MA W b 0 16 f ∧ (W.cell? ⟨b, 16, none⟩ = some (.int .i64 o) ∧ W.frozen? ⟨b, 16, none⟩ = false) ∧ W.cell? ⟨b, 17, none⟩ = some (.int .i64 s) ∧ W.frozen? ⟨b, 17, none⟩ = false
theorem LR.lt {W : World} {b : Nat} {f : Nat → Nat} {o s : Nat} (h : LR W b f o s) : b < W.heap.size := h.1.lt (by omega)
theorem LR.below {V V1 : World} {b m : Nat} {f : Nat → Nat} {o s : Nat} (h : LR V b f o s) (hb : Below m V V1) (hm : b < m) : LR V1 b f o s :=
  ⟨h.1.below hb hm, ⟨(hb.cell (p := ⟨b, 16, none⟩) hm).trans h.2.1.1, (hb.frozen (p := ⟨b, 16, none⟩) hm).trans h.2.1.2⟩, (hb.cell (p := ⟨b, 17, none⟩) hm).trans h.2.2.1, (hb.frozen (p := ⟨b, 17, none⟩) hm).trans h.2.2.2⟩
theorem LR.far {V V1 : World} {b : Nat} {f : Nat → Nat} {o s : Nat} (h : LR V b f o s) (hb : Below V.heap.size V V1) : LR V1 b f o s := h.below hb h.lt
theorem LR.drew {V : World} {b : Nat} {f : Nat → Nat} {o s : Nat} (h : LR V b f o s) : LR V.drew b f o s := h
theorem LR.drewN {V : World} {b : Nat} {f : Nat → Nat} {o s : Nat} (h : LR V b f o s) (m : Nat) : LR (V.drewN m) b f o s := h
theorem LR.step {V : World} {b : Nat} {f : Nat → Nat} {o s : Nat} (h : LR V b f o s) (t : Nat) : LR (V.setCell ⟨b, 17, none⟩ (.int .i64 t)) b f o t := by
  refine ⟨h.1.other (.inr (.inr (by omega))) _, ⟨?_, by rw [World.frozen?_setCell]; exact h.2.1.2⟩, World.cell?_setCell_same V _ _ h.2.2.1, by rw [World.frozen?_setCell]; exact h.2.2.2⟩
  rw [cell_otherD (addr_neD (by omega))]
  exact h.2.1.1
theorem LR.new (w : World) (f : Nat → Nat) (o s : Nat) (t : TypeId) : LR (w.alloc (.cells (vs 16 f ++ [Value.int .i64 o, Value.int .i64 s]).toArray t)) w.heap.size f o s := by
  have hl : (vs 16 f).length = 16 := vs_length 16 f
  have hc : ∀ j, (w.alloc (.cells (vs 16 f ++ [Value.int .i64 o, Value.int .i64 s]).toArray t)).cell? ⟨w.heap.size, j, none⟩ = (vs 16 f ++ [Value.int .i64 o, Value.int .i64 s])[j]? := fun j => by
    rw [cell_of_row _ w.heap.size j _ t (0, 0) (heap_alloc_new w _)]
    simp
  refine ⟨fun j hj => ⟨?_, by simp [go_sem]⟩, ⟨?_, by simp [go_sem]⟩, ?_, by simp [go_sem]⟩
  · rw [Nat.zero_add, hc, List.getElem?_append_left (by omega)]
    exact vs_get f hj
  · rw [hc, List.getElem?_append_right (by omega), hl]; rfl
  · rw [hc, List.getElem?_append_right (by omega), hl]; rfl
theorem built_run (f : Nat → Nat) (o s : Int) : Try.prog.built 67 [(0, .agg (vs 16 f).toArray), (1, .int .i64 o), (2, .int .i64 s)] = some (vs 16 f ++ [Value.int .i64 o, Value.int .i64 s]).toArray := by kernel_rfl
theorem runFrom_any (x : Int) (a : Option Addr) (n c : Nat) (xs : List Int) (o s : Nat) (w : World) (h : RO w.heap.size w a xs) (hn : xs.length = n) (hl : n ≤ 16) (hl1 : 1 ≤ n) (h0 : ∀ (i : Nat) (y : Int), xs[i]? = some y → 0 ≤ y) :
    Calls Try.prog 38 #[.agg #[.int .i64 x, .slice a n c, .int .i64 o], .int .i64 s] w fun e w' => ∃ b, e = .returned (.pointer (some ⟨b, 0, none⟩)) ∧ w.heap.size ≤ b ∧ LR w' b (rwF xs) o s ∧ Below w.heap.size w w' := by
  have A0 := D3.new w (.int .i64 x) (.slice a n c) (.int .i64 o) 27
  have B0 : Below w.heap.size w (w.alloc (.cells #[.int .i64 x, .slice a n c, .int .i64 o] 27)) := (Below.refl _ _).alloc (Nat.le_refl _) _
  have HR0 : RO (w.alloc (.cells #[.int .i64 x, .slice a n c, .int .i64 o] 27)).drew.heap.size (w.alloc (.cells #[.int .i64 x, .slice a n c, .int .i64 o] 27)).drew a xs := (h.below B0).up B0.size
  have HM : Hid (∀ q : GR (w.alloc (.cells #[.int .i64 x, .slice a n c, .int .i64 o] 27)).drew none, Calls Try.prog 45 #[.agg #[.int .i64 x, .slice a n c, .int .i64 o]] q.w fun e w' => e = .returned (.agg (vs 16 (rwF xs)).toArray) ∧ Below q.w.heap.size q.w w') := fun q => matrix_any x a n c xs o q.w (HR0.gr q) hn hl hl1 h0
  have HBD := Lib.hid (built_run (rwF xs) o s)
  have HNW : Hid (∀ W : World, LR (W.alloc (.cells (vs 16 (rwF xs) ++ [Value.int .i64 o, Value.int .i64 s]).toArray 67)) W.heap.size (rwF xs) o s) := fun W => LR.new W (rwF xs) o s _
  generalize (vs 16 (rwF xs) ++ [Value.int .i64 o, Value.int .i64 s]).toArray = B at HBD HNW
  generalize (vs 16 (rwF xs)).toArray = A at HM HBD
  have HBW := Lib.hid B0
  obtain ⟨q0, q1, q2⟩ := (A0.drew).gr (rw := none) (by simp)
  clear A0 B0 HR0 h hn h0
  go_enter Try.func38, Try.ntmps38
  go_wp2_with fail
  refine wp_region_mix (none) [0, 1, 2, 3, 4] [5, 6, 7] (by kernel_rfl) (by kernel_rfl) ?_
  simp only [pickOps, List.filterMap_cons, List.filterMap_nil, List.getElem?_toArray, List.getElem?_cons_succ, List.getElem?_cons_zero]
  repeat (refine wpQuietG_step (fun K hK => ?_); go_simp; first | (refine hK _ ?_; clear hK K) | (apply Exists.intro; refine ⟨fun _ => ?_, hK _ ?_⟩; (first | (with_reducible exact HM.out _)); clear hK K))
  refine wpQuietG_nil ?_
  clear q0 q1 q2
  intro W hW1 hW2
  refine wpl_build rfl 67 #[(0, Operand.tmp 6), (1, Operand.tmp 8), (2, Operand.tmp 9)] B rfl (by simp only [List.map_toArray, List.map_cons, List.map_nil, Act.eval]; exact HBD.out) ?_
  refine wpList_nil ?_
  refine ⟨rfl, hW1, ?_⟩
  intro W2 hW3 hW4
  go_wp2
  have hg3 := gr_alloc hW3 (.cells B 67)
  have hl := HNW.out W2
  have hz : w.heap.size ≤ W2.heap.size := by have := hW3.size; have := HBW.out.size; simp at *; omega
  generalize W2.alloc (.cells B 67) = W3 at hg3 hl ⊢
  try refine ⟨hg3, ?_⟩
  intro W4 hW5 hW6
  go_wp2
  try refine ⟨hW5, ?_⟩
  try intro W5 hW7 hW8
  go_wp2
  go_ret
  first | exact ⟨_, rfl, hz, (hl.far hW6).far hW8, HBW.out.trans ((grb hW7).mono HBW.out.size)⟩ | exact ⟨_, rfl, hz, hl.far hW6, HBW.out.trans ((grb hW5).mono HBW.out.size)⟩
theorem vs_16 (f : Nat → Nat) : (vs 16 f).toArray = #[.int .i64 (f 0), .int .i64 (f 1), .int .i64 (f 2), .int .i64 (f 3), .int .i64 (f 4), .int .i64 (f 5), .int .i64 (f 6), .int .i64 (f 7), .int .i64 (f 8), .int .i64 (f 9), .int .i64 (f 10), .int .i64 (f 11), .int .i64 (f 12), .int .i64 (f 13), .int .i64 (f 14), .int .i64 (f 15)] := rfl
theorem MA.gt16 {W : World} {b : Nat} {f : Nat → Nat} (h : MA W b 0 16 f) : (∀ q : GT W, q.w.cell? ⟨b, 0, none⟩ = some (.int .i64 (f 0))) ∧ (∀ q : GT W, q.w.cell? ⟨b, 1, none⟩ = some (.int .i64 (f 1))) ∧ (∀ q : GT W, q.w.cell? ⟨b, 2, none⟩ = some (.int .i64 (f 2))) ∧ (∀ q : GT W, q.w.cell? ⟨b, 3, none⟩ = some (.int .i64 (f 3))) ∧ (∀ q : GT W, q.w.cell? ⟨b, 4, none⟩ = some (.int .i64 (f 4))) ∧ (∀ q : GT W, q.w.cell? ⟨b, 5, none⟩ = some (.int .i64 (f 5))) ∧ (∀ q : GT W, q.w.cell? ⟨b, 6, none⟩ = some (.int .i64 (f 6))) ∧ (∀ q : GT W, q.w.cell? ⟨b, 7, none⟩ = some (.int .i64 (f 7))) ∧ (∀ q : GT W, q.w.cell? ⟨b, 8, none⟩ = some (.int .i64 (f 8))) ∧ (∀ q : GT W, q.w.cell? ⟨b, 9, none⟩ = some (.int .i64 (f 9))) ∧ (∀ q : GT W, q.w.cell? ⟨b, 10, none⟩ = some (.int .i64 (f 10))) ∧ (∀ q : GT W, q.w.cell? ⟨b, 11, none⟩ = some (.int .i64 (f 11))) ∧ (∀ q : GT W, q.w.cell? ⟨b, 12, none⟩ = some (.int .i64 (f 12))) ∧ (∀ q : GT W, q.w.cell? ⟨b, 13, none⟩ = some (.int .i64 (f 13))) ∧ (∀ q : GT W, q.w.cell? ⟨b, 14, none⟩ = some (.int .i64 (f 14))) ∧ (∀ q : GT W, q.w.cell? ⟨b, 15, none⟩ = some (.int .i64 (f 15))) :=
  ⟨fun q => gt_cell (by have := (h 0 (by omega)).1; rwa [Nat.zero_add] at this) q, fun q => gt_cell (by have := (h 1 (by omega)).1; rwa [Nat.zero_add] at this) q, fun q => gt_cell (by have := (h 2 (by omega)).1; rwa [Nat.zero_add] at this) q, fun q => gt_cell (by have := (h 3 (by omega)).1; rwa [Nat.zero_add] at this) q, fun q => gt_cell (by have := (h 4 (by omega)).1; rwa [Nat.zero_add] at this) q, fun q => gt_cell (by have := (h 5 (by omega)).1; rwa [Nat.zero_add] at this) q, fun q => gt_cell (by have := (h 6 (by omega)).1; rwa [Nat.zero_add] at this) q, fun q => gt_cell (by have := (h 7 (by omega)).1; rwa [Nat.zero_add] at this) q, fun q => gt_cell (by have := (h 8 (by omega)).1; rwa [Nat.zero_add] at this) q, fun q => gt_cell (by have := (h 9 (by omega)).1; rwa [Nat.zero_add] at this) q, fun q => gt_cell (by have := (h 10 (by omega)).1; rwa [Nat.zero_add] at this) q, fun q => gt_cell (by have := (h 11 (by omega)).1; rwa [Nat.zero_add] at this) q, fun q => gt_cell (by have := (h 12 (by omega)).1; rwa [Nat.zero_add] at this) q, fun q => gt_cell (by have := (h 13 (by omega)).1; rwa [Nat.zero_add] at this) q, fun q => gt_cell (by have := (h 14 (by omega)).1; rwa [Nat.zero_add] at this) q, fun q => gt_cell (by have := (h 15 (by omega)).1; rwa [Nat.zero_add] at this) q⟩
set_option maxRecDepth 10000 in
theorem step_deferred (b : Nat) (f : Nat → Nat) (o s : Nat) (u : FrameMode) (w : World) (h : LR w b f o s) (hf : ∀ i, i < 16 → f i < 65536) (hs : s < 65536) :
    CallsD Try.prog 58 #[.pointer (some ⟨b, 0, none⟩)] u w fun e u' w' => u' = u ∧ (e = .returned (.tuple #[]) ∧ LR w' b f o (G2.mpL f s 16) ∧ w.grownBy w' (some b)) := by
  have hmx : Try.prog.follows .mixedOrders = true := by kernel_rfl
  have HA : Hid (∀ q : GT w, Calls Try.prog 47 #[.agg #[.int .i64 (f 0), .int .i64 (f 1), .int .i64 (f 2), .int .i64 (f 3), .int .i64 (f 4), .int .i64 (f 5), .int .i64 (f 6), .int .i64 (f 7), .int .i64 (f 8), .int .i64 (f 9), .int .i64 (f 10), .int .i64 (f 11), .int .i64 (f 12), .int .i64 (f 13), .int .i64 (f 14), .int .i64 (f 15)], .int .i64 s] q.w fun e w' => e = .returned (.int .i64 (G2.mpL f s 16)) ∧ Below q.w.heap.size q.w w') := fun q => by
    have := after_any f s q.w hf hs
    rwa [vs_16] at this
  obtain ⟨r0, r1, r2, r3, r4, r5, r6, r7, r8, r9, r10, r11, r12, r13, r14, r15⟩ := h.1.gt16
  have c17 : ∀ q : GT w, q.w.cell? ⟨b, 17, none⟩ = some (.int .i64 s) := gt_cell h.2.2.1
  have HL := Lib.hid h
  generalize G2.mpL f s 16 = t at HA
  clear h hf hs
  go_enter_d Try.func58, Try.ntmps58
  go_wp2_with fail
  refine wp_region_quiet_tail (C := fun w' => ∃ q : GT w, w' = q.w) 12 hmx (by kernel_rfl) ⟨⟨w.drew, (Below.refl _ _).drew⟩, rfl⟩ ?_
  simp only [List.take_succ_cons, List.take_zero, List.drop_succ_cons, List.drop_zero]
  repeat (quiet_step (with_reducible exact gt_call (HA.out _)))
  refine wpQuiet_nil ?_
  rintro W2 ⟨⟨_, hW2⟩, rfl⟩
  have HL2 := HL.out.far hW2
  have hst := HL2.step t
  have f17 := HL2.2.2.2
  have e17 := HL2.2.2.1
  have hgr : w.grownBy (_) (some b) := gr_set (gr_step (gr_refl w (some b)) hW2) (p := ⟨b, 17, none⟩) (.inl rfl) (.int .i64 t)
  clear c17
  go_wp2
  go_end0
  exact ⟨rfl, hst, hgr⟩
theorem output_any (b : Nat) (f : Nat → Nat) (o s : Nat) (w : World) (h : LR w b f o s) (hf : ∀ i, i < 16 → f i < 65536) (hs : s < 65536) (ho : o < 65536) :
    Calls Try.prog 39 #[.pointer (some ⟨b, 0, none⟩)] w fun e w' => e = .returned (.int .i64 (G2.pv o s)) ∧ LR w' b f o (G2.mpL f s 16) ∧ w.grownBy w' (some b) := by
  obtain ⟨q, hq⟩ : ∃ q, o &&& s = q := ⟨_, rfl⟩
  have hq1 : q ≤ o := by rw [← hq]; exact Nat.and_le_left
  have E := i64_andI (o : Int) (s : Int) o s q rfl rfl hq (by omega) (by omega)
  obtain ⟨c, hc⟩ : ∃ c, Pop.pcF 64 q % 2 = c := ⟨_, rfl⟩
  have HP : Hid (∀ W : World, Calls Try.prog 59 #[.int .i64 q] W fun e w' => e = .returned (.int .i64 c) ∧ W = w') := fun W => by rw [← hc]; exact parity_any q W (by omega)
  have HV : Hid (G2.pv o s = c) := by unfold Hid G2.pv; rw [hq]; exact hc
  have c16 := h.2.1.1
  have c17 := h.2.2.1
  have HL := Lib.hid h
  have HF := Lib.hid hf
  clear h hq hc hf
  go_enter_defers Try.func39, Try.ntmps39
  go_wp2
  go_quiet ((go_at_call 59; with_reducible exact quietG (HP.out _)))
  go_wp2
  refine leaves_cons (f := 58) (args := #[.pointer (some ⟨b, 0, none⟩)]) (by simp) (by simp [go_sem]) ?_
  refine (step_deferred b f o s .returning _ (HL.out.drewN nq) HF.out hs).mono ?_
  rintro e u' w'' ⟨rfl, rfl, hl, hg⟩
  exact ⟨_, results_tmp rfl _ _ _, by rw [HV.out]; rfl, hl, ⟨hg.os, hg.tape, hg.output, hg.size, hg.block⟩⟩
theorem stepL_yes (W : Nat) (a : Option Addr) (c : Nat) (xs : List Int) (o s : Nat) (w : World) (h : RO w.heap.size w a xs) (hP : LinP W xs o) (hS : InP W s) :
    Calls Try.prog 15 #[.agg #[.int .i64 W, .slice a W c, .int .i64 o], .int .i64 s] w fun e w' => e = .returned (.tuple #[.int .i64 (G2.mpL (rwF xs) s 16), .int .i64 (G2.pv o s), .bool true]) ∧ Below w.heap.size w w' := by
  have hn : xs.length = W := by have := hP.2.1; omega
  have h1 := hP.1
  have hlt : ∀ t : Int, InP W t → 0 ≤ t ∧ t < 65536 := fun t ht => by
    obtain ⟨m, rfl, h2, h3⟩ := state_of (by omega) ht
    omega
  have hs2 : s < 65536 := by have := hlt s hS; omega
  have ho2 : o < 65536 := by have := hlt o hP.2.2.2; omega
  have hf : ∀ i, i < 16 → rwF xs i < 65536 := fun i _ => by
    unfold rwF
    by_cases e : i < xs.length
    · have hx : xs[i]? = some xs[i] := List.getElem?_eq_getElem e
      have := hlt _ (hP.2.2.1 i _ hx)
      rw [List.getD_eq_getElem?_getD, hx]
      simp only [Option.getD_some]
      omega
    · rw [List.getD_eq_getElem?_getD, List.getElem?_eq_none (by omega)]; simp
  have h0 : ∀ (i : Nat) (y : Int), xs[i]? = some y → 0 ≤ y := fun i y hy => (hlt y (hP.2.2.1 i y hy)).1
  have A0 := D3.new w (.int .i64 W) (.slice a W c) (.int .i64 o) 27
  have B0 : Below w.heap.size w (w.alloc (.cells #[.int .i64 W, .slice a W c, .int .i64 o] 27)) := (Below.refl _ _).alloc (Nat.le_refl _) _
  have HS := Lib.hid (hasStL_any W a W c xs o s true _ ((h.below B0).up B0.size) hn (by omega) ⟨fun _ => ⟨hP, hS⟩, fun _ => rfl⟩)
  have HR := Lib.hid h
  have HF := Lib.hid hf
  have H0 := Lib.hid h0
  have HN := Lib.hid hn
  clear h hP hS hlt hf h0 hn
  go_enter Try.func15, Try.ntmps15
  go_wp2_with fail
  generalize w.alloc (.cells #[.int .i64 W, .slice a W c, .int .i64 o] 27) = w0 at A0 B0 HS ⊢
  refine (HS.out).mono ?_
  rintro e w1 ⟨rfl, hb⟩
  obtain ⟨⟨x0, x1, x2⟩, _⟩ := A0.far hb
  have B1 := B0.trans (hb.mono B0.size)
  clear hb HS A0 B0
  go_wp2_with fail
  refine (runFrom_any W a W c xs o s w1 ((HR.out.below B1).up B1.size) HN.out (by omega) (by omega) H0.out).mono ?_
  rintro e w2 ⟨b, rfl, hbb, hl, hb⟩
  have B2 := B1.trans (hb.mono B1.size)
  have hz := B1.size
  clear hb B1 x0 x1 x2
  go_wp2_with fail
  refine (output_any b (rwF xs) o s w2 hl HF.out hs2 ho2).mono ?_
  rintro e w3 ⟨rfl, hl3, hg⟩
  have B3 := Lib.hid (B2.grown hg B2.size (fun q e => by cases e; omega))
  have x17 := hl3.2.2.1
  clear hl B2 hg hl3
  go_wp2
  go_ret3
  exact ⟨rfl, B3.out⟩
theorem stepL_no (x : Int) (a : Option Addr) (n c : Nat) (xs : List Int) (o s : Int) (w : World) (h : RO w.heap.size w a xs) (hn : xs.length = n) (hl : n ≤ 1048576) (hP : ¬ (LinP x xs o ∧ InP x s)) :
    Calls Try.prog 15 #[.agg #[.int .i64 x, .slice a n c, .int .i64 o], .int .i64 s] w fun e w' => e = .returned (.tuple #[.int .i64 0, .int .i64 0, .bool false]) ∧ Below w.heap.size w w' := by
  have B0 : Below w.heap.size w (w.alloc (.cells #[.int .i64 x, .slice a n c, .int .i64 o] 27)) := (Below.refl _ _).alloc (Nat.le_refl _) _
  have HS := Lib.hid (hasStL_any x a n c xs o s false _ ((h.below B0).up B0.size) hn hl ⟨fun e => absurd e (by simp), fun k => absurd k hP⟩)
  clear h hn hP
  go_enter Try.func15, Try.ntmps15
  go_wp2_with fail
  refine (HS.out).mono ?_
  rintro e w1 ⟨rfl, hb⟩
  have HB := Lib.hid (B0.trans (hb.mono B0.size))
  clear hb B0 HS
  go_wp2
  go_ret3
  exact ⟨rfl, HB.out⟩
end Go.Proofs.Ytciofobedgmbjaa
