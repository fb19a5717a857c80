/- The leaves of a tree in the spec: l06Levels. -/
import Derived.Test.YtamedggnkbhgeaaDoorTree
namespace Go.Proofs.YtamedggnkbhgeaaDoor
open Go.RowKit Go.PlainAid
set_option maxHeartbeats 1000000

theorem own_belowT {w w1 : World} {B : Nat} {e : TypeId} {size n : Nat} {v : Value} {xs : List Value} (h : w.ownsRow B e size v n xs) (hb : Below w.heap.size w w1) : w1.ownsRow B e size v n xs := by
  obtain ⟨h0, h⟩ := h
  refine ⟨h0, ?_⟩
  rcases h with h | ⟨g, cap, cur, hv, hg, hh, r⟩
  · exact .inl h
  · have hlt : g < w.heap.size := (Array.getElem?_eq_some_iff.1 hh).1
    exact .inr ⟨g, cap, cur, hv, hg, by rw [hb.block g hlt]; exact hh, r⟩
theorem rowI_shape {B : Nat} {w : World} {v : Value} {l : List Int} (h : RowI B w v l) : ∃ p c, v = .slice p l.length c := by
  rcases h.2 with ⟨rfl, h0⟩ | ⟨g, cap, cur, rfl, _⟩
  · exact ⟨none, 0, by rw [h0]⟩
  · exact ⟨_, _, rfl⟩
/-- a slice of rows: the first L levels -/
def LvS (B : Nat) (w : World) (v : Value) (vs : List Value) (xs : List Int) (k L : Nat) : Prop :=
  w.ownsRow B 24 1 v L vs ∧ ∀ d, d < L → ∃ u, vs[d]? = some u ∧ RowI B w u (lvs xs (k - d) xs.length)
theorem lvS_below {B : Nat} {w w' : World} {v : Value} {vs : List Value} {xs : List Int} {k L : Nat} (h : LvS B w v vs xs k L) (hb : Below w.heap.size w w') : LvS B w' v vs xs k L := by
  obtain ⟨h1, h2⟩ := h
  refine ⟨own_belowT h1 hb, fun d hd => ?_⟩
  obtain ⟨u, hu, hr⟩ := h2 d hd
  exact ⟨u, hu, own_belowT hr hb⟩
theorem rowI_keptS {B B' n : Nat} {w w' : World} {u v : Value} {l : List Int} {vs : List Value} (h : RowI B w u l) (ho : w.ownsRow B' 24 1 v n vs) (hg : w.grownBy w' v.ownBlock) : RowI B w' u l := by
  refine World.ownsRow.kept h hg ?_
  cases hv : u.ownBlock with
  | none => exact .inl rfl
  | some b =>
    refine .inr fun e => ?_
    obtain ⟨_, cur, h2⟩ := rowI_has h hv
    rcases ho.2 with ⟨rfl, _⟩ | ⟨g', cap, cur', rfl, hb, hh, _⟩
    · simp [Value.ownBlock] at e
    · simp [Value.ownBlock] at e
      subst e
      rw [hh] at h2
      simp at h2
theorem lvS_step {B : Nat} {w w' : World} {o : Obj} {v v' u : Value} {vs : List Value} {xs : List Int} {k L : Nat} (h : LvS B w v vs xs k L) (hu : RowI B w u (lvs xs (k - L) xs.length)) (hown : w'.ownsRow B 24 1 v' (L + 1) (vs ++ [u])) (hg : (w.alloc o).grownBy w' v.ownBlock) : LvS B w' v' (vs ++ [u]) xs k (L + 1) := by
  obtain ⟨h1, h2⟩ := h
  have hl : vs.length = L := by have := h1.1; omega
  refine ⟨hown, fun d hd => ?_⟩
  by_cases e : d < L
  · obtain ⟨x, hx, hr⟩ := h2 d e
    exact ⟨x, by rw [List.getElem?_append_left (by omega)]; exact hx, rowI_keptS (World.ownsRow.alloc hr o) (World.ownsRow.alloc h1 o) hg⟩
  · obtain rfl : d = L := by omega
    exact ⟨u, by rw [← hl]; simp, rowI_keptS (World.ownsRow.alloc hu o) (World.ownsRow.alloc h1 o) hg⟩
theorem l06Levels_yes (a : Option Addr) (n cap : Nat) (xs : List Int) (k : Nat) (w : World) (h : RO w.heap.size w a xs) (hn : xs.length = n) (hl : n ≤ 1048576) (hD : DyP xs k) :
    Calls Tryd.prog 37 #[.slice a n cap] w fun e w' => ∃ v vs, e = .returned v ∧ LvS w.heap.size w' v vs xs k (k + 1) ∧ Below w.heap.size w w' := by
  obtain ⟨i0, hi, hq0, hq1, hq2⟩ := info_parts Tryd.info24
  obtain ⟨i1, hi1, hy0, hy1, hy2⟩ := info_parts Tryd.info2
  have HL := Lib.hid (l06Level_yes a n cap xs k w h hn hl hD)
  have HR := Lib.hid h
  have HN := Lib.hid hn
  have hk := hD.1
  have hn16 : n ≤ 16 := by have := hD.2.1.1; omega
  have HW := Lib.hid hD.2.1
  clear h hn hD
  go_enter Tryd.func37, Tryd.ntmps37
  go_wp2_with fail
  refine (HL.out).mono ?_
  rintro e w1 ⟨rfl, rfl⟩
  have HS0 : Hid (LvS w.heap.size (w.alloc (.cells #[] 24)) (.slice (some ⟨w.heap.size, 0, none⟩) 0 0) [] xs k 0) := ⟨ownsRow_empty w 24 1, fun d hd => by omega⟩
  have HB0 : Hid (Below w.heap.size w (w.alloc (.cells #[] 24))) := (Below.refl w.heap.size w).alloc (Nat.le_refl _) _
  go_wp2_with fail
  go_loopw [4, 5] (fun ov dv wr => ∃ (L : Nat) (vs : List Value), L ≤ k + 1 ∧ dv = .int .i64 L ∧ Hid (LvS w.heap.size wr ov vs xs k L) ∧ Hid (Below w.heap.size w wr)) (fun _ dv _ => k + 1 - (intOf dv).toNat)
  case atStart => exact ⟨0, [], Nat.zero_le _, rfl, HS0, HB0⟩
  case round =>
    obtain ⟨L, vs, hL, rfl, HS, HB⟩ := hrel
    clear HS0 HB0
    obtain ⟨ov, hov⟩ : ∃ ov, ov = u4 := ⟨_, rfl⟩
    rw [← hov] at HS ⊢
    clear hov
    by_cases hlt : L < k + 1
    · obtain ⟨W0, hW0⟩ : ∃ W0, W0 = wr := ⟨_, rfl⟩
      rw [← hW0] at HS HB ⊢
      have hz0 := HB.out.size
      obtain ⟨sh, hsh⟩ : ∃ sh, k - L = sh := ⟨_, rfl⟩
      have hsub : ((k : Nat) : Int) - (L : Nat) = (sh : Nat) := by omega
      have hsh12 : sh ≤ 12 := by omega
      have hdec : decide (L ≤ k) = true := by simp; omega
      have HR0 : Hid (RowI W0.heap.size (W0.alloc (.cells #[] 2)) (.slice (some ⟨W0.heap.size, 0, none⟩) 0 0) (lvs xs sh 0)) := ownsRow_empty W0 2 1
      have HB1 : Hid (Below W0.heap.size W0 (W0.alloc (.cells #[] 2))) := (Below.refl W0.heap.size W0).alloc (Nat.le_refl _) _
      clear hW0
      go_wp2_with fail
      go_loopw [6, 7] (fun lv iv wr => ∃ (i : Nat), i ≤ n ∧ iv = .int .i64 i ∧ Hid (RowI W0.heap.size wr lv (lvs xs sh i)) ∧ Hid (Below W0.heap.size W0 wr)) (fun _ iv _ => n - (intOf iv).toNat)
      case atStart => exact ⟨0, Nat.zero_le _, rfl, HR0, HB1⟩
      case round =>
        obtain ⟨i, hi2, rfl, HRow, HG⟩ := hrel
        clear HR0 HB1
        have hgr := HG.out.size
        by_cases hlt2 : i < n
        · obtain ⟨x, hx⟩ : ∃ x, xs[i]? = some x := ⟨_, List.getElem?_eq_getElem (by have := HN.out; omega)⟩
          obtain ⟨b0, off, rfl, hb0, hc0⟩ := HR.out i x hx
          have hx2 := HW.out.2 i x hx
          obtain ⟨X, rfl⟩ := Int.eq_ofNat_of_zero_le hx2.1
          have hcx : wr.cell? ⟨b0, off + i, none⟩ = some (.int .i64 X) := by
            rw [World.cell?_of_block (a := ⟨b0, off + i, none⟩) (HG.out.block b0 (by omega)), World.cell?_of_block (a := ⟨b0, off + i, none⟩) (HB.out.block b0 hb0)]
            exact hc0
          have hll := lvs_len xs sh i
          have HE : Hid (lvs xs sh (i + 1) = if X.testBit sh = true then lvs xs sh i ++ [(i : Int)] else lvs xs sh i) := by unfold Hid; rw [lvs, getD_of hx]; rfl
          have hbt := bit_testT X sh
          clear hx hc0
          cases hbb : X.testBit sh with
          | true =>
            rw [hbb] at hbt
            have HE2 : Hid (lvs xs sh (i + 1) = lvs xs sh i ++ [(i : Int)]) := by unfold Hid; rw [HE.out, if_pos hbb]
            clear hbb HE
            obtain ⟨lv, hlv⟩ : ∃ lv, lv = u6 := ⟨_, rfl⟩
            rw [← hlv] at HRow ⊢
            clear hlv
            have hob := own_block HRow.out
            go_wp2_with (at_builtin; refine wpList_append_own _ rfl _ _ 24 rfl W0.heap.size 2 i1 (.int .i64 0) 1 8 Tryd.underlying24 hi1 hy0 hy1 hy2 rfl (by decide) _ _ _ rfl (World.ownsRow.alloc HRow.out _) ⟨wr.heap.size, 0, none⟩ 1 1 [.int .i64 i] rfl rfl (cell_one_new _ _ _) (by intro u hu; simp at hu; subst hu; rfl) (by unfold maxLen; omega) (by omega) (by first | (simp; done) | (simp; omega)) ?_)
            intro v1 w6 hown6 hgrow6 _
            have HF : Hid (RowI W0.heap.size w6 v1 (lvs xs sh (i + 1)) ∧ Below W0.heap.size W0 w6) := by
              refine ⟨?_, ?_⟩
              · unfold RowI
                rw [HE2.out]
                simpa using hown6
              · exact (HG.out.alloc (by omega) _).grown hgrow6 (by rw [World.size_alloc]; omega) hob
            clear hown6 hgrow6 hob
            go_wp2
            go_roundw
            case rel => exact ⟨i + 1, by omega, by go_num, HF.out.1, HF.out.2⟩
            case measure => simp [intOf]; omega
          | false =>
            rw [hbb] at hbt
            have HE2 : Hid (lvs xs sh (i + 1) = lvs xs sh i) := by unfold Hid; rw [HE.out, if_neg (by rw [hbb]; decide)]
            clear hbb HE
            go_wp2
            go_roundw
            case rel => exact ⟨i + 1, by omega, by go_num, by rw [HE2.out]; exact HRow, HG⟩
            case measure => simp [intOf]; omega
        · obtain rfl : i = n := by omega
          obtain ⟨lv, hlv⟩ : ∃ lv, lv = u6 := ⟨_, rfl⟩
          rw [← hlv] at HRow ⊢
          clear hlv
          have HS2 : Hid (LvS w.heap.size wr ov vs xs k L) := lvS_below HS.out HG.out
          have HU : Hid (RowI w.heap.size wr lv (lvs xs (k - L) xs.length)) := by unfold Hid; rw [hsh, HN.out]; exact rowI_lower HRow.out hz0
          have HB2 : Hid (Below w.heap.size w wr) := HB.out.trans (HG.out.mono hz0)
          have hob := own_block HS2.out.1
          obtain ⟨p, c, rfl⟩ := rowI_shape HRow.out
          clear HRow HG
          go_wp2_with (at_builtin; refine wpList_append_own _ rfl _ _ 30 rfl w.heap.size 24 i0 (.slice none 0 0) 1 24 Tryd.underlying30 hi hq0 hq1 hq2 rfl (by decide) _ _ _ rfl (World.ownsRow.alloc HS2.out.1 _) ⟨wr.heap.size, 0, none⟩ 1 1 [_] rfl rfl (cell_one_new _ _ _) (by intro u hu; simp at hu; subst hu; rfl) (by unfold maxLen; omega) (by omega) (by first | (simp; done) | (simp; omega)) ?_)
          intro v1 w6 hown6 hgrow6 _
          have HF : Hid (LvS w.heap.size w6 v1 (vs ++ [.slice p (lvs xs sh i).length c]) xs k (L + 1) ∧ Below w.heap.size w w6) := by
            refine ⟨lvS_step HS2.out HU.out hown6 hgrow6, ?_⟩
            exact (HB2.out.alloc HB2.out.size _).grown hgrow6 (by rw [World.size_alloc]; omega) hob
          clear hown6 hgrow6 hob
          go_wp2
          go_roundw
          case rel => exact ⟨L + 1, _, by omega, by go_num, HF.out.1, HF.out.2⟩
          case measure => simp [intOf]; omega
    · obtain rfl : L = k + 1 := by omega
      go_wp2
      go_ret
      exact ⟨_, vs, rfl, HS.out, HB.out⟩
