/- The cycles of an order: impl.CyclesOf, spec.CyclesOf, the law. -/
import Derived.Test.YtjbojamhnapkpabS7D
import Derived.Test.YtjbojamhnapkpabS7C
import Derived.Test.YtjbojamhnapkpabS7P
namespace Go.Proofs.Ytjbojamhnapkpab
open Go.RowKit Go.PlainAid
set_option maxHeartbeats 1000000

theorem Try.info22 : (Try.prog.info? 22).map (fun i => (i.zero, i.size, i.bytes)) = some (some (.slice none 0 0), 1, 24) := by kernel_rfl
/-- the length of a slice -/
def lenV7 : Value → Nat
  | .slice _ n _ => n
  | _ => 0
/-- N bools in a block -/
def BB (N b : Nat) (s : List Bool) (W : World) : Prop := b < W.heap.size ∧ ∀ j, j < N → W.cell? ⟨b, j, none⟩ = some (.bool (s.getD j true)) ∧ W.frozen? ⟨b, j, none⟩ = false
theorem BB.set {N b : Nat} {s : List Bool} {W : World} (h : BB N b s W) (hl : s.length = N) (i : Nat) (v : Bool) : BB N b (s.set i v) (W.setCell ⟨b, i, none⟩ (.bool v)) := by
  refine ⟨by simpa [World.setCell] using h.1, fun j hj => ?_⟩
  have h2 := h.2 j hj
  rw [World.frozen?_setCell]
  refine ⟨?_, h2.2⟩
  rw [List.getD_eq_getElem?_getD, List.getElem?_set]
  by_cases e : i = j
  · subst e
    rw [if_pos rfl, if_pos (by omega), Option.getD_some]
    exact World.cell?_setCell_same W _ _ h2.1
  · rw [if_neg e, cell_ne e, ← List.getD_eq_getElem?_getD]
    exact h2.1
theorem BB.grown {N b : Nat} {s : List Bool} {W W' : World} {row : Option Nat} (h : BB N b s W) (hg : W.grownBy W' row) (hne : row ≠ some b) : BB N b s W' := by
  have hb := hg.block b h.1 (Ne.symm hne)
  exact ⟨Nat.lt_of_lt_of_le h.1 hg.size, fun j hj => ⟨(World.cell?_of_block (a := ⟨b, j, none⟩) hb).trans (h.2 j hj).1, (World.frozen?_of_block (a := ⟨b, j, none⟩) hb).trans (h.2 j hj).2⟩⟩
theorem BB.far {N b : Nat} {s : List Bool} {W W' : World} (h : BB N b s W) (hb : Below W.heap.size W W') : BB N b s W' :=
  ⟨Nat.lt_of_lt_of_le h.1 hb.size, fun j hj => ⟨(hb.cell (p := ⟨b, j, none⟩) h.1).trans (h.2 j hj).1, (hb.frozen (p := ⟨b, j, none⟩) h.1).trans (h.2 j hj).2⟩⟩
theorem BB.new12 (w : World) (t : TypeId) : BB 12 w.heap.size (List.replicate 12 false) (w.alloc (.cells #[.bool false, .bool false, .bool false, .bool false, .bool false, .bool false, .bool false, .bool false, .bool false, .bool false, .bool false, .bool false] t)) := by
  refine ⟨by rw [World.size_alloc]; omega, fun j hj => ?_⟩
  rcases lt12 hj with rfl | rfl | rfl | rfl | rfl | rfl | rfl | rfl | rfl | rfl | rfl | rfl <;> exact ⟨by simp [go_sem], by simp [go_sem]⟩
theorem row_has7 {B m : Nat} {w : World} {v : Value} {e : TypeId} {xs : List Value} (h : w.ownsRow B e 1 v m xs) {g : Nat} (hg : v.ownBlock = some g) : B ≤ g ∧ ∃ cur, w.heap[g]? = some (.cells cur e (0, 0)) := by
  rcases h.2 with ⟨rfl, _⟩ | ⟨g', cap, cur, rfl, hb, hh, _⟩
  · simp [Value.ownBlock] at hg
  · simp [Value.ownBlock] at hg
    subst hg
    exact ⟨hb, cur, hh⟩
theorem row_kept7 {B B' n m : Nat} {w w' : World} {u v : Value} {xs vs : List Value} (h : w.ownsRow B 2 1 u m xs) (ho : w.ownsRow B' 22 1 v n vs) (hg : w.grownBy w' v.ownBlock) : w'.ownsRow B 2 1 u m xs := by
  refine World.ownsRow.kept h hg ?_
  cases hv : u.ownBlock with
  | none => exact .inl rfl
  | some b =>
    refine .inr fun e => ?_
    obtain ⟨_, cur, h2⟩ := row_has7 h hv
    obtain ⟨_, cur2, h3⟩ := row_has7 ho e.symm
    rw [h3] at h2
    simp at h2
/-- rows under way: their slice in block go, none of them in block b, all below top -/
def LvE (B b top : Nat) (vs : List Value) (go L co : Nat) (ls : List (List Int)) (w : World) : Prop :=
  (w.ownsRow B 22 1 (.slice (some ⟨go, 0, none⟩) L co) L vs ∧ go ≠ b ∧ ls.length = L ∧ top ≤ w.heap.size ∧ b < w.heap.size ∧ B ≤ b) ∧ ∃ bs : Nat → Nat, b + 1 ≤ bs 0 ∧ (∀ d, bs d ≤ bs (d + 1)) ∧ bs L ≤ top ∧ ∀ d, d < L → ∃ u, vs[d]? = some u ∧ w.ownsRow (bs d) 2 1 u (ls.getD d []).length ((ls.getD d []).map (Value.int .i64)) ∧ ∀ q, u.ownBlock = some q → q < bs (d + 1)
theorem LvE.grown {B b top : Nat} {vs : List Value} {go L co : Nat} {ls : List (List Int)} {w w' : World} (h : LvE B b top vs go L co ls w) (hg : w.grownBy w' (some b)) : LvE B b top vs go L co ls w' := by
  obtain ⟨⟨h1, h2, h3, h4, h5, h6⟩, bs, b1, b2, b3, b4⟩ := h
  have hz := hg.size
  refine ⟨⟨World.ownsRow.kept h1 hg (.inr (by simpa [Value.ownBlock] using h2)), h2, h3, by omega, by omega, h6⟩, bs, b1, b2, b3, fun d hd => ?_⟩
  obtain ⟨u, u1, u2, u3⟩ := b4 d hd
  refine ⟨u, u1, World.ownsRow.kept u2 hg ?_, u3⟩
  cases hv : u.ownBlock with
  | none => exact .inl rfl
  | some q =>
    refine .inr fun e => ?_
    have := (row_has7 u2 hv).1
    have e1 := mono_le b2 (Nat.zero_le d)
    cases e
    omega
theorem LvE.far {B b top : Nat} {vs : List Value} {go L co : Nat} {ls : List (List Int)} {w w' : World} (h : LvE B b top vs go L co ls w) (hb : Below w.heap.size w w') : LvE B b top vs go L co ls w' := by
  obtain ⟨⟨h1, h2, h3, h4, h5, h6⟩, bs, b1, b2, b3, b4⟩ := h
  have hz := hb.size
  refine ⟨⟨own_far h1 hb, h2, h3, by omega, by omega, h6⟩, bs, b1, b2, b3, fun d hd => ?_⟩
  obtain ⟨u, u1, u2, u3⟩ := b4 d hd
  exact ⟨u, u1, own_far u2 hb, u3⟩
theorem LvE.up {B b top top' : Nat} {vs : List Value} {go L co : Nat} {ls : List (List Int)} {w : World} (h : LvE B b top vs go L co ls w) (ht : top ≤ top') (ht2 : top' ≤ w.heap.size) : LvE B b top' vs go L co ls w := by
  obtain ⟨⟨h1, h2, h3, h4, h5, h6⟩, bs, b1, b2, b3, b4⟩ := h
  exact ⟨⟨h1, h2, h3, ht2, h5, h6⟩, bs, b1, b2, by omega, b4⟩
theorem LvE.step {B b top : Nat} {vs : List Value} {go L co : Nat} {ls : List (List Int)} {w w' : World} {o : Obj} {u v' : Value} {l : List Int} (h : LvE B b top vs go L co ls w) (hu : w.ownsRow top 2 1 u l.length (l.map (Value.int .i64))) (hown : w'.ownsRow B 22 1 v' (L + 1) (vs ++ [u])) (hg : (w.alloc o).grownBy w' (Value.slice (some ⟨go, 0, none⟩) L co).ownBlock) (hat : v'.ownBlock = (Value.slice (some ⟨go, 0, none⟩) L co).ownBlock ∨ v'.ownBlock = some (w.alloc o).heap.size) :
    ∃ go' co', v' = .slice (some ⟨go', 0, none⟩) (L + 1) co' ∧ LvE B b w'.heap.size (vs ++ [u]) go' (L + 1) co' (ls ++ [l]) w' := by
  obtain ⟨⟨h1, h2, h3, h4, h5, h6⟩, bs, b1, b2, b3, b4⟩ := h
  obtain ⟨go', co', rfl, hgo⟩ := own_shape hown (by omega)
  have hz := hg.size
  rw [World.size_alloc] at hz
  have hgb : go' ≠ b := by
    rcases hat with e | e
    · simp [Value.ownBlock] at e
      omega
    · rw [World.size_alloc] at e
      simp [Value.ownBlock] at e
      omega
  have hl : vs.length = L := by have := h1.1; omega
  refine ⟨go', co', rfl, ⟨hown, hgb, by rw [List.length_append, h3]; rfl, Nat.le_refl _, by omega, h6⟩, fun d => if d ≤ L then bs d else w'.heap.size, ?_, fun d => ?_, ?_, fun d hd => ?_⟩
  · dsimp only
    rw [if_pos (Nat.zero_le _)]
    exact b1
  · dsimp only
    by_cases e : d + 1 ≤ L
    · rw [if_pos (by omega), if_pos e]
      exact b2 d
    · rw [if_neg e]
      by_cases e2 : d ≤ L
      · rw [if_pos e2]
        have := mono_le b2 e2
        omega
      · rw [if_neg e2]
        exact Nat.le_refl _
  · dsimp only
    rw [if_neg (by omega)]
    exact Nat.le_refl _
  · dsimp only
    rw [if_pos (by omega)]
    by_cases e : d < L
    · obtain ⟨x, x1, x2, x3⟩ := b4 d e
      refine ⟨x, by rw [List.getElem?_append_left (by omega)]; exact x1, ?_, fun q hq => by rw [if_pos (by omega)]; exact x3 q hq⟩
      have e1 : (ls ++ [l]).getD d [] = ls.getD d [] := by
        rw [List.getD_eq_getElem?_getD, List.getElem?_append_left (by omega), List.getD_eq_getElem?_getD]
      rw [e1]
      exact row_kept7 (World.ownsRow.alloc x2 o) (World.ownsRow.alloc h1 o) hg
    · obtain rfl : d = L := by omega
      have hk := row_kept7 (World.ownsRow.alloc hu o) (World.ownsRow.alloc h1 o) hg
      refine ⟨u, by rw [← hl]; simp, ?_, fun q hq => ?_⟩
      · have e1 : (ls ++ [l]).getD d [] = l := by
          rw [List.getD_eq_getElem?_getD, List.getElem?_append_right (by omega), h3, Nat.sub_self]
          rfl
        rw [e1]
        exact own_base hk (by omega)
      · rw [if_neg (by omega)]
        obtain ⟨_, cur, hc⟩ := row_has7 hk hq
        exact (Array.getElem?_eq_some_iff.1 hc).1
theorem LvE.le {B b top : Nat} {vs : List Value} {go L co : Nat} {ls : List (List Int)} {w : World} (h : LvE B b top vs go L co ls w) : LE B w.heap.size w (.slice (some ⟨go, 0, none⟩) L co) L (fun d => ls.getD d []) := by
  obtain ⟨⟨h1, h2, h3, h4, h5, h6⟩, bs, b1, b2, b3, b4⟩ := h
  obtain ⟨g1, cur, g2⟩ := row_has7 h1 (g := go) rfl
  refine .inr ⟨go, co, bs, rfl, ⟨g1, (Array.getElem?_eq_some_iff.1 g2).1⟩, by omega, b2, by omega, Nat.le_refl _, fun d hd => ?_⟩
  obtain ⟨u, u1, u2, u3⟩ := b4 d hd
  refine ⟨u, ?_, (SL.of_own u2).narrow (fun q hq => ⟨(row_has7 u2 hq).1, u3 q hq⟩), fun e => ?_⟩
  · rw [World.ownsRow.cellAt h1 d (by omega)]
    exact u1
  · obtain ⟨_, cur2, h7⟩ := row_has7 u2 e
    rw [g2] at h7
    simp at h7
theorem freeN_pos7 {seen : List Bool} {i : Nat} (h : seen.getD i true = false) : ∀ f, freeN seen ≤ f → ∃ g, f = g + 1 ∧ freeN (seen.set i true) ≤ g := fun f _ => by
  have := freeN_set h
  exact ⟨f - 1, by omega, by omega⟩
theorem freeN_bound (s : List Bool) {N : Nat} (h : s.length = N) : freeN s ≤ N := by rw [← h]; exact freeN_le s
/-- a cycle under way -/
structure CyW (xs : List Int) (N : Nat) (s0 : List Bool) (k : Nat) (done : List Int) (seen : List Bool) (cur : Nat) : Prop where
  len : seen.length = N
  inb : cur < xs.length
  rest : ∃ f, freeN seen ≤ f ∧ cyL xs 12 s0 k = done ++ cyL xs f seen cur ∧ cyS xs 12 s0 k = cyS xs f seen cur
theorem CyW.size {xs : List Int} {N : Nat} {s0 : List Bool} {k : Nat} {done : List Int} {seen : List Bool} {cur : Nat} (h : CyW xs N s0 k done seen cur) : done.length ≤ 12 := by
  obtain ⟨f, _, h1, _⟩ := h.rest
  have := cyL_len xs 12 s0 k
  rw [h1, List.length_append] at this
  omega
theorem CyW.next {xs : List Int} {N : Nat} {s0 : List Bool} {k : Nat} {done : List Int} {seen : List Bool} {cur X : Nat} (h : CyW xs N s0 k done seen cur) (hf : seen.getD cur true = false) (hx : xs[cur]? = some (X : Int)) (hX : X < xs.length) : CyW xs N s0 k (done ++ [(cur : Int)]) (seen.set cur true) X := by
  obtain ⟨f, h1, h2, h3⟩ := h.rest
  obtain ⟨g, rfl, hg⟩ := freeN_pos7 hf f h1
  obtain ⟨e1, e2⟩ := cyL_free (xs := xs) (f := g) hf
  have hxd : (xs.getD cur 0).toNat = X := by rw [List.getD_eq_getElem?_getD, hx]; simp
  rw [hxd] at e1 e2
  exact ⟨by rw [List.length_set]; exact h.len, hX, g, hg, by rw [h2, e1, List.append_assoc]; rfl, by rw [h3, e2]⟩
theorem CyW.stop {xs : List Int} {N : Nat} {s0 : List Bool} {k : Nat} {done : List Int} {seen : List Bool} {cur : Nat} (h : CyW xs N s0 k done seen cur) (hf : seen.getD cur true = true) : cyL xs 12 s0 k = done ∧ cyS xs 12 s0 k = seen := by
  obtain ⟨f, h1, h2, h3⟩ := h.rest
  obtain ⟨e1, e2⟩ := cyL_seen (xs := xs) (f := f) hf
  rw [e1, List.append_nil] at h2
  exact ⟨h2, h3.trans e2⟩
set_option maxRecDepth 10000 in
theorem cycles_yes (a : Option Addr) (n cap : Nat) (xs : List Int) (w : World) (h : RO w.heap.size w a xs) (hn : xs.length = n) (hO : OrdP xs) :
    Calls Try.prog 32 #[.slice a n cap] w (RowsRet w (cysD xs 12 n).2.length (fun d => (cysD xs 12 n).2.getD d []) true) := by
  obtain ⟨i0, hi, hz0, hz1, hz2⟩ := info_parts Try.info2
  obtain ⟨i1, hi1, hy0, hy1, hy2⟩ := info_parts Try.info22
  have h12 : n ≤ 12 := by have := hO.1.2; omega
  have hIs := Lib.hid (isOrd_any a n cap xs w h hn (by omega) true (decide_eq_true hO))
  have HO := Lib.hid hO
  have HR := Lib.hid h
  have HN := Lib.hid hn
  clear h hn hO
  go_enter Try.func32, Try.ntmps32
  go_wp2_with fail
  refine (hIs.out).mono ?_
  rintro e w1 ⟨rfl, hb1⟩
  have hzz := hb1.size
  have HB1 := Lib.hid hb1
  clear hb1 hIs
  go_wp2_with fail
  obtain ⟨W2, hW2⟩ : ∃ W2, (w1.alloc (.cells #[] 22)).alloc (.cells #[.bool false, .bool false, .bool false, .bool false, .bool false, .bool false, .bool false, .bool false, .bool false, .bool false, .bool false, .bool false] 71) = W2 := ⟨_, rfl⟩
  obtain ⟨b, hb⟩ : ∃ b, w1.heap.size + 1 = b := ⟨_, rfl⟩
  have HL0 : Hid (LvE w.heap.size b W2.heap.size [] w1.heap.size 0 0 (cysD xs 12 0).2 W2 ∧ BB 12 b (cysD xs 12 0).1 W2 ∧ Below w.heap.size w W2) := by
    have g1 := (Below.refl w1.heap.size w1).alloc (Nat.le_refl _) (.cells #[] 22)
    have s1 : (w1.alloc (.cells #[] 22)).heap.size = b := by rw [World.size_alloc]; exact hb
    have g2 := (Below.refl (w1.alloc (.cells #[] 22)).heap.size (w1.alloc (.cells #[] 22))).alloc (Nat.le_refl _) (.cells #[.bool false, .bool false, .bool false, .bool false, .bool false, .bool false, .bool false, .bool false, .bool false, .bool false, .bool false, .bool false] 71)
    rw [hW2] at g2
    have s2 : W2.heap.size = b + 1 := by rw [← hW2, World.size_alloc, s1]
    refine ⟨⟨⟨own_base (own_far (ownsRow_empty w1 22 1) g2) hzz, by omega, rfl, Nat.le_refl _, by omega, by omega⟩, fun _ => b + 1, Nat.le_refl _, fun _ => Nat.le_refl _, by show b + 1 ≤ W2.heap.size; omega, fun d hd => by omega⟩, ?_, HB1.out.trans ((g1.trans (g2.mono (by omega))).mono hzz)⟩
    have := BB.new12 (w1.alloc (.cells #[] 22)) 71
    rw [s1, hW2] at this
    exact this
  rw [hW2, hb]
  clear hW2 HB1
  go_loopw [4, 6, 7, 8, 15] (fun ov _ _ _ iv wr => ∃ (k go L co : Nat) (vs : List Value), k ≤ n ∧ iv = .int .i64 k ∧ ov = .slice (some ⟨go, 0, none⟩) L co ∧ Hid (LvE w.heap.size b wr.heap.size vs go L co (cysD xs 12 k).2 wr ∧ BB 12 b (cysD xs 12 k).1 wr ∧ Below w.heap.size w wr)) (fun _ _ _ _ iv _ => n - (intOf iv).toNat)
  case atStart => exact ⟨0, _, _, _, [], Nat.zero_le _, rfl, rfl, HL0⟩
  case round =>
    obtain ⟨k, go, L, co, vs, hk, rfl, rfl, HL⟩ := hrel
    clear HL0
    have hls := (cysD_count xs 12 k).1
    have hLk : (cysD xs 12 k).2.length = L := HL.out.1.1.2.2.1
    by_cases hlt : k < n
    · obtain ⟨c1, c2⟩ := HL.out.2.1.2 k (by omega)
      have hk12 : (k : Int) < 12 := by omega
      cases hs : (cysD xs 12 k).1.getD k true with
      | true =>
        rw [hs] at c1
        have HE : Hid (cysD xs 12 (k + 1) = cysD xs 12 k) := cysD_seen hs
        rw [← HE.out] at HL
        clear hs
        go_wp2
        go_roundw
        case rel => exact ⟨k + 1, go, L, co, vs, by omega, by go_num, rfl, HL⟩
        case measure => first | (simp [intOf]; done) | (simp [intOf]; omega)
      | false =>
        rw [hs] at c1
        have HE : Hid (cysD xs 12 (k + 1) = (cyS xs 12 (cysD xs 12 k).1 k, (cysD xs 12 k).2 ++ [cyL xs 12 (cysD xs 12 k).1 k])) := cysD_free hs
        have HC0 : Hid (CyW xs 12 (cysD xs 12 k).1 k [] (cysD xs 12 k).1 k) := ⟨cysD_length xs 12 k, by rw [HN.out]; exact hlt, 12, freeN_bound _ (cysD_length xs 12 k), rfl, rfl⟩
        obtain ⟨W0, hW0⟩ : ∃ W0, W0 = wr := ⟨_, rfl⟩
        rw [← hW0] at HL c1 c2 ⊢
        have HG0 : Hid (BB 12 b (cysD xs 12 k).1 (W0.alloc (.cells #[] 2)) ∧ Rw W0.heap.size W0.heap.size 0 0 [] (W0.alloc (.cells #[] 2)) ∧ W0.grownBy (W0.alloc (.cells #[] 2)) (some b)) := ⟨HL.out.2.1.far ((Below.refl _ _).alloc (Nat.le_refl _) _), Rw.empty W0, growA (World.grownBy.refl _ _) _⟩
        have hbW := HL.out.2.1.1
        clear hs hW0
        go_wp2_with fail
        go_loopw [7, 8] (fun cv uv wr => ∃ (gc cc m cur : Nat) (done : List Int) (seen : List Bool), done.length = m ∧ m ≤ 12 ∧ cur < n ∧ cv = .slice (some ⟨gc, 0, none⟩) m cc ∧ uv = .int .i64 cur ∧ Hid (CyW xs 12 (cysD xs 12 k).1 k done seen cur) ∧ Hid (BB 12 b seen wr ∧ Rw W0.heap.size gc m cc done wr ∧ W0.grownBy wr (some b))) (fun cv _ _ => 13 - lenV7 cv)
        case atStart => exact ⟨_, _, 0, k, [], _, rfl, by omega, hlt, rfl, rfl, HC0, HG0⟩
        case round =>
          obtain ⟨gc, cc, m, cur, done, seen, hm, hm12, hcn, rfl, rfl, HC, HG⟩ := hrel
          clear HC0 HG0 c1 c2
          obtain ⟨c1, c2⟩ := HG.out.1.2 cur (by omega)
          have hc12 : (cur : Int) < 12 := by omega
          have HMm := Lib.hid hm
          clear hm
          cases hs : seen.getD cur true with
          | true =>
            rw [hs] at c1
            obtain ⟨e1, e2⟩ := HC.out.stop hs
            have HE2 : Hid (cysD xs 12 (k + 1) = (seen, (cysD xs 12 k).2 ++ [done])) := by unfold Hid; rw [HE.out, e1, e2]
            have HLr := Lib.hid ((HL.out.1.up (Nat.le_refl _) (Nat.le_refl _)).grown HG.out.2.2)
            have HU : Hid (wr.ownsRow W0.heap.size 2 1 (.slice (some ⟨gc, 0, none⟩) m cc) done.length (done.map (Value.int .i64))) := by
              have := HG.out.2.1
              unfold Hid
              unfold Rw at this
              rw [HMm.out]
              exact this
            have HBr : Hid (Below w.heap.size w wr) := HL.out.2.2.grown HG.out.2.2 HL.out.2.2.size (fun q e => by cases e; exact HL.out.1.1.2.2.2.2.2)
            have HBB := Lib.hid HG.out.1
            have hzr := HBr.out.size
            have hL12 : L ≤ 12 := by omega
            clear hs e1 e2 HC HG HE HL c2
            go_wp2_with (at_builtin; refine wpList_append_own_at _ rfl _ _ 35 rfl w.heap.size 22 i1 (.slice none 0 0) 1 24 Try.underlying35 hi1 hy0 hy1 hy2 rfl (by decide) _ _ _ rfl (World.ownsRow.alloc HLr.out.1.1 _) ⟨wr.heap.size, 0, none⟩ 1 1 [_] rfl rfl (cell_one_new _ _ _) (by intro u hu; simp at hu; subst hu; rfl) (by unfold maxLen; omega) (by omega) (by first | (simp; done) | (simp; omega)) ?_; intro v1 w1 hown1 hgrow1 hnil1 hat1)
            obtain ⟨go', co', rfl, hL2⟩ := LvE.step HLr.out HU.out hown1 hgrow1 hat1
            have hgr : wr.grownBy w1 (some go) := grow_trans (growA (World.grownBy.refl _ _) _) hgrow1
            have HL2 : Hid (LvE w.heap.size b w1.heap.size (vs ++ [.slice (some ⟨gc, 0, none⟩) m cc]) go' (L + 1) co' (cysD xs 12 (k + 1)).2 w1 ∧ BB 12 b (cysD xs 12 (k + 1)).1 w1 ∧ Below w.heap.size w w1) := by
              unfold Hid
              rw [HE2.out]
              exact ⟨hL2, HBB.out.grown hgr (by have := HLr.out.1.2.1; simpa using this), HBr.out.grown hgr hzr (fun q e => by cases e; exact (row_has7 HLr.out.1.1 rfl).1)⟩
            clear hown1 hgrow1 hnil1 hat1 hL2 hgr HLr HU HBr HBB
            go_wp2
            go_roundw
            case rel => exact ⟨k + 1, go', L + 1, co', _, by omega, by go_num, rfl, HL2⟩
            case measure => first | (simp [intOf]; done) | (simp [intOf]; omega)
          | false =>
            rw [hs] at c1
            obtain ⟨x, hx⟩ : ∃ x, xs[cur]? = some x := ⟨_, List.getElem?_eq_getElem (by have := HN.out; omega)⟩
            obtain ⟨hx1, hx2⟩ := HO.out.2.1 cur x hx
            obtain ⟨g0, off, rfl, hg0, hc0⟩ := HR.out cur x hx
            obtain ⟨X, rfl⟩ := Int.eq_ofNat_of_zero_le hx1
            have hXn : X < n := by have := HN.out; omega
            have HC2 := Lib.hid (HC.out.next hs hx (by have := HN.out; omega))
            have HBw : Hid (Below w.heap.size w wr) := HL.out.2.2.grown HG.out.2.2 HL.out.2.2.size (fun q e => by cases e; exact HL.out.1.1.2.2.2.2.2)
            have hgcb : gc ≠ b := by have := HG.out.2.1.le; omega
            have hbB : w.heap.size ≤ b := HL.out.1.1.2.2.2.2.2
            have gs : wr.grownBy (wr.setCell ⟨b, cur, none⟩ (.bool true)) (some b) := grow_set (World.grownBy.refl _ _) _ _
            have HS2 : Hid (BB 12 b (seen.set cur true) (wr.setCell ⟨b, cur, none⟩ (.bool true)) ∧ Rw W0.heap.size gc m cc done (wr.setCell ⟨b, cur, none⟩ (.bool true)) ∧ W0.grownBy (wr.setCell ⟨b, cur, none⟩ (.bool true)) (some b)) := ⟨HG.out.1.set HC.out.len cur true, HG.out.2.1.grown gs (by simpa using fun e => hgcb e.symm), grow_trans HG.out.2.2 gs⟩
            have hzw := HG.out.2.2.size
            have hm11 : m + 1 ≤ 12 := by have := HC2.out.size; rw [List.length_append, HMm.out] at this; exact this
            clear hs hx hx1 hx2 HC HG gs
            have hzs : (wr.setCell ⟨b, cur, none⟩ (.bool true)).heap.size = wr.heap.size := by simp [World.setCell]
            have hnew := cell_one_new (wr.setCell ⟨b, cur, none⟩ (.bool true)) (.int .i64 cur) 2
            rw [hzs] at hnew
            replace hnew := Lib.hid hnew
            replace hzs := Lib.hid hzs
            have HQ : Hid (∀ V : World, ((wr.setCell ⟨b, cur, none⟩ (.bool true)).alloc (.cells #[.int .i64 cur] 2)).grownBy V (Value.slice (some ⟨gc, 0, none⟩) m cc).ownBlock → Below w.heap.size w V) := fun V hV => by
              have h1 := HBw.out.setCell (p := ⟨b, cur, none⟩) hbB (.bool true)
              have h2 := h1.size
              exact (h1.alloc h2 _).grown hV (by rw [World.size_alloc]; omega) (fun q e => by simp [Value.ownBlock] at e; have := HS2.out.2.1.le; omega)
            go_wp2_with (at_builtin; refine wpList_append_own_at _ rfl _ _ 22 rfl W0.heap.size 2 i0 (.int .i64 0) 1 8 Try.underlying22 hi hz0 hz1 hz2 rfl (by decide) _ _ _ rfl (World.ownsRow.alloc (HS2.out.2.1) _) ⟨wr.heap.size, 0, none⟩ 1 1 [.int .i64 cur] rfl rfl (hnew.out) (by intro u hu; simp at hu; subst hu; rfl) (by unfold maxLen; omega) (by omega) (by rw [World.size_alloc, hzs.out]; omega) ?_; intro v1 w1 hown1 hgrow1 hnil1 hat1; have hcx := ((HQ.out w1 hgrow1).cell (p := ⟨g0, off + cur, none⟩) hg0).trans hc0)
            obtain ⟨g1, cap1, rfl, hr1, hg1, hgr⟩ := Rw.app HS2.out.2.1 hown1 hgrow1 hat1
            have hgle := HS2.out.2.1.le
            have HS3 : Hid (BB 12 b (seen.set cur true) w1 ∧ Rw W0.heap.size g1 (m + 1) cap1 (done ++ [(cur : Int)]) w1 ∧ W0.grownBy w1 (some b)) := by
              refine ⟨HS2.out.1.grown hgr (by simpa using hgcb), hr1, ?_⟩
              have h1 := HS2.out.2.2
              exact ⟨hgr.os.trans h1.os, hgr.tape.trans h1.tape, hgr.output.trans h1.output, Nat.le_trans h1.size hgr.size, fun q hq hne => (hgr.block q (Nat.lt_of_lt_of_le hq h1.size) (fun e => by cases e; omega)).trans (h1.block q hq hne)⟩
            clear hown1 hgrow1 hnil1 hat1 hr1 hg1 hgr HS2 HBw hc0 c1 c2
            go_roundw
            case rel => exact ⟨g1, cap1, m + 1, X, _, _, by rw [List.length_append, HMm.out]; rfl, hm11, hXn, rfl, rfl, HC2, HS3⟩
            case measure => simp [lenV7]; omega
    · obtain rfl : k = n := by omega
      have HF := Lib.hid HL.out.1.le
      have HB := Lib.hid HL.out.2.2
      have HLk := Lib.hid hLk
      clear HL hLk
      go_wp2
      go_ret2
      rw [HLk.out]
      exact ⟨_, rfl, HF.out, HB.out⟩
theorem cycles_no (a : Option Addr) (n cap : Nat) (xs : List Int) (w : World) (h : RO w.heap.size w a xs) (hn : xs.length = n) (hl : n ≤ 1048576) (hO : ¬ OrdP xs) :
    Calls Try.prog 32 #[.slice a n cap] w (RowsRet w 0 (fun _ => []) false) := by
  have HI := Lib.hid (isOrd_any a n cap xs w h hn hl false (decide_eq_false hO))
  clear h hn hO
  go_enter Try.func32, Try.ntmps32
  go_wp2_with fail
  refine (HI.out).mono ?_
  rintro e w1 ⟨rfl, hb1⟩
  go_wp2
  go_ret2
  exact ⟨_, rfl, .inl ⟨rfl, rfl⟩, hb1⟩
theorem Try.info4 : (Try.prog.info? 4).map (fun i => (i.zero, i.size, i.bytes)) = some (some (.bool false), 1, 1) := by kernel_rfl
theorem bools_made {B b n : Nat} {e : TypeId} {w : World} (h : w.ownsRow B e 1 (.slice (some ⟨b, 0, none⟩) n n) n (madeCells (Value.bool false).cells (n * 1)).toList) : BB n b (List.replicate n false) w := by
  have e1 : (madeCells (Value.bool false).cells (n * 1)).toList = List.replicate n (Value.bool false) := by
    have : (Value.bool false).cells = #[.bool false] := rfl
    rw [this, toList_madeCells_one]
    simp
  rw [e1] at h
  obtain ⟨_, cur, hc⟩ := row_has7 h (g := b) rfl
  refine ⟨(Array.getElem?_eq_some_iff.1 hc).1, fun j hj => ⟨?_, World.ownsRow.frozenAt h j⟩⟩
  rw [World.ownsRow.cellAt h j (by omega), List.getElem?_replicate, if_pos hj, List.getD_eq_getElem?_getD, List.getElem?_replicate, if_pos hj]
  rfl
set_option maxRecDepth 10000 in
theorem specCycles_yes (a : Option Addr) (n cap : Nat) (xs : List Int) (w : World) (h : RO w.heap.size w a xs) (hn : xs.length = n) (hO : OrdP xs) (hcap : n ≤ cap) :
    Calls Try.prog 31 #[.slice a n cap] w (RowsRet w (cysD xs n n).2.length (fun d => (cysD xs n n).2.getD d []) true) := by
  obtain ⟨i0, hi, hz0, hz1, hz2⟩ := info_parts Try.info2
  obtain ⟨i1, hi1, hy0, hy1, hy2⟩ := info_parts Try.info22
  obtain ⟨i2, hi2, hx0, hx1, hx2⟩ := info_parts Try.info4
  have h12 : n ≤ 12 := by have := hO.1.2; omega
  have hIs := Lib.hid (is_any a n cap xs w h hn (by omega) hcap true (decide_eq_true hO))
  have HO := Lib.hid hO
  have HR := Lib.hid h
  have HN := Lib.hid hn
  clear h hn hO
  go_enter Try.func31, Try.ntmps31
  go_wp2_with fail
  refine (hIs.out).mono ?_
  rintro e w1 ⟨rfl, m1, rfl⟩
  have HB1 : Hid (Below w.heap.size w (w.drewN m1)) := below_drewN (Below.refl _ _) m1
  clear hIs
  have hs1 : w.heap.size ≤ (w.drewN m1).heap.size := Nat.le_refl _
  go_wp2_with (at_make; refine wpList_make_full _ rfl _ _ 70 rfl w.heap.size 4 i2 _ 1 Try.underlying70 hi2 hx0 hx1 _ _ _ _ n rfl rfl rfl rfl (by rw [hx2]; omega) (by unfold maxLen; omega) hs1 ?_; intro w3 hown hgrow)
  obtain ⟨b, hb⟩ : ∃ b, w.heap.size = b := ⟨_, rfl⟩
  have HL0 : Hid (LvE w.heap.size b (w3.alloc (.cells #[] 22)).heap.size [] w3.heap.size 0 0 (cysD xs n 0).2 (w3.alloc (.cells #[] 22)) ∧ BB n b (cysD xs n 0).1 (w3.alloc (.cells #[] 22)) ∧ Below w.heap.size w (w3.alloc (.cells #[] 22))) := by
    have g1 := (Below.refl w3.heap.size w3).alloc (Nat.le_refl _) (.cells #[] 22)
    have h0 := bools_made (b := b) (by rw [← hb]; exact hown)
    have h1 := HB1.out.grown hgrow hs1 (by simp)
    have h2 := h0.1
    refine ⟨⟨⟨own_base (ownsRow_empty w3 22 1) (by omega), by omega, rfl, Nat.le_refl _, by rw [World.size_alloc]; omega, by omega⟩, fun _ => b + 1, Nat.le_refl _, fun _ => Nat.le_refl _, by show b + 1 ≤ (w3.alloc _).heap.size; rw [World.size_alloc]; omega, fun d hd => by omega⟩, h0.far g1, h1.alloc h1.size _⟩
  rw [hb]
  clear hown hgrow HB1 hs1 hi2 hx0 hx1 hx2 hb
  go_loopw [5, 6, 7, 8] (fun ov iv _ _ wr => ∃ (k go L co : Nat) (vs : List Value), k ≤ n ∧ iv = .int .i64 k ∧ ov = .slice (some ⟨go, 0, none⟩) L co ∧ Hid (LvE w.heap.size b wr.heap.size vs go L co (cysD xs n k).2 wr ∧ BB n b (cysD xs n k).1 wr ∧ Below w.heap.size w wr)) (fun _ iv _ _ _ => n - (intOf iv).toNat)
  case atStart => exact ⟨0, _, _, _, [], Nat.zero_le _, rfl, rfl, HL0⟩
  case round =>
    obtain ⟨k, go, L, co, vs, hk, rfl, rfl, HL⟩ := hrel
    clear HL0
    have hls := (cysD_count xs n k).1
    have hLk : (cysD xs n k).2.length = L := HL.out.1.1.2.2.1
    by_cases hlt : k < n
    · obtain ⟨c1, c2⟩ := HL.out.2.1.2 k (by omega)
      cases hs : (cysD xs n k).1.getD k true with
      | true =>
        rw [hs] at c1
        have HE : Hid (cysD xs n (k + 1) = cysD xs n k) := cysD_seen hs
        rw [← HE.out] at HL
        clear hs
        go_wp2
        go_roundw
        case rel => exact ⟨k + 1, go, L, co, vs, by omega, by go_num, rfl, HL⟩
        case measure => first | (simp [intOf]; done) | (simp [intOf]; omega)
      | false =>
        rw [hs] at c1
        have HE : Hid (cysD xs n (k + 1) = (cyS xs 12 (cysD xs n k).1 k, (cysD xs n k).2 ++ [cyL xs 12 (cysD xs n k).1 k])) := cysD_free hs
        have HC0 : Hid (CyW xs n (cysD xs n k).1 k [] (cysD xs n k).1 k) := ⟨cysD_length xs n k, by rw [HN.out]; exact hlt, 12, Nat.le_trans (freeN_bound _ (cysD_length xs n k)) h12, rfl, rfl⟩
        obtain ⟨W0, hW0⟩ : ∃ W0, W0 = wr := ⟨_, rfl⟩
        rw [← hW0] at HL c1 c2 ⊢
        have HG0 : Hid (BB n b (cysD xs n k).1 (W0.alloc (.cells #[] 2)) ∧ Rw W0.heap.size W0.heap.size 0 0 [] (W0.alloc (.cells #[] 2)) ∧ W0.grownBy (W0.alloc (.cells #[] 2)) (some b)) := ⟨HL.out.2.1.far ((Below.refl _ _).alloc (Nat.le_refl _) _), Rw.empty W0, growA (World.grownBy.refl _ _) _⟩
        have hbW := HL.out.2.1.1
        clear hs hW0
        go_wp2_with fail
        go_loopw [7, 8] (fun cv uv wr => ∃ (gc cc m cur : Nat) (done : List Int) (seen : List Bool), done.length = m ∧ m ≤ 12 ∧ cur < n ∧ cv = .slice (some ⟨gc, 0, none⟩) m cc ∧ uv = .int .i64 cur ∧ Hid (CyW xs n (cysD xs n k).1 k done seen cur) ∧ Hid (BB n b seen wr ∧ Rw W0.heap.size gc m cc done wr ∧ W0.grownBy wr (some b))) (fun cv _ _ => 13 - lenV7 cv)
        case atStart => exact ⟨_, _, 0, k, [], _, rfl, by omega, hlt, rfl, rfl, HC0, HG0⟩
        case round =>
          obtain ⟨gc, cc, m, cur, done, seen, hm, hm12, hcn, rfl, rfl, HC, HG⟩ := hrel
          clear HC0 HG0 c1 c2
          obtain ⟨c1, c2⟩ := HG.out.1.2 cur (by omega)
          have HMm := Lib.hid hm
          clear hm
          cases hs : seen.getD cur true with
          | true =>
            rw [hs] at c1
            obtain ⟨e1, e2⟩ := HC.out.stop hs
            have HE2 : Hid (cysD xs n (k + 1) = (seen, (cysD xs n k).2 ++ [done])) := by unfold Hid; rw [HE.out, e1, e2]
            have HLr := Lib.hid ((HL.out.1.up (Nat.le_refl _) (Nat.le_refl _)).grown HG.out.2.2)
            have HU : Hid (wr.ownsRow W0.heap.size 2 1 (.slice (some ⟨gc, 0, none⟩) m cc) done.length (done.map (Value.int .i64))) := by
              have := HG.out.2.1
              unfold Hid
              unfold Rw at this
              rw [HMm.out]
              exact this
            have HBr : Hid (Below w.heap.size w wr) := HL.out.2.2.grown HG.out.2.2 HL.out.2.2.size (fun q e => by cases e; exact HL.out.1.1.2.2.2.2.2)
            have HBB := Lib.hid HG.out.1
            have hzr := HBr.out.size
            have hL12 : L ≤ 12 := by omega
            clear hs e1 e2 HC HG HE HL c2
            go_wp2_with (at_builtin; refine wpList_append_own_at _ rfl _ _ 35 rfl w.heap.size 22 i1 (.slice none 0 0) 1 24 Try.underlying35 hi1 hy0 hy1 hy2 rfl (by decide) _ _ _ rfl (World.ownsRow.alloc HLr.out.1.1 _) ⟨wr.heap.size, 0, none⟩ 1 1 [_] rfl rfl (cell_one_new _ _ _) (by intro u hu; simp at hu; subst hu; rfl) (by unfold maxLen; omega) (by omega) (by first | (simp; done) | (simp; omega)) ?_; intro v1 w1 hown1 hgrow1 hnil1 hat1)
            obtain ⟨go', co', rfl, hL2⟩ := LvE.step HLr.out HU.out hown1 hgrow1 hat1
            have hgr : wr.grownBy w1 (some go) := grow_trans (growA (World.grownBy.refl _ _) _) hgrow1
            have HL2 : Hid (LvE w.heap.size b w1.heap.size (vs ++ [.slice (some ⟨gc, 0, none⟩) m cc]) go' (L + 1) co' (cysD xs n (k + 1)).2 w1 ∧ BB n b (cysD xs n (k + 1)).1 w1 ∧ Below w.heap.size w w1) := by
              unfold Hid
              rw [HE2.out]
              exact ⟨hL2, HBB.out.grown hgr (by have := HLr.out.1.2.1; simpa using this), HBr.out.grown hgr hzr (fun q e => by cases e; exact (row_has7 HLr.out.1.1 rfl).1)⟩
            clear hown1 hgrow1 hnil1 hat1 hL2 hgr HLr HU HBr HBB
            go_wp2
            go_roundw
            case rel => exact ⟨k + 1, go', L + 1, co', _, by omega, by go_num, rfl, HL2⟩
            case measure => first | (simp [intOf]; done) | (simp [intOf]; omega)
          | false =>
            rw [hs] at c1
            obtain ⟨x, hx⟩ : ∃ x, xs[cur]? = some x := ⟨_, List.getElem?_eq_getElem (by have := HN.out; omega)⟩
            obtain ⟨hx1, hx2⟩ := HO.out.2.1 cur x hx
            obtain ⟨g0, off, rfl, hg0, hc0⟩ := HR.out cur x hx
            obtain ⟨X, rfl⟩ := Int.eq_ofNat_of_zero_le hx1
            have hXn : X < n := by have := HN.out; omega
            have HC2 := Lib.hid (HC.out.next hs hx (by have := HN.out; omega))
            have HBw : Hid (Below w.heap.size w wr) := HL.out.2.2.grown HG.out.2.2 HL.out.2.2.size (fun q e => by cases e; exact HL.out.1.1.2.2.2.2.2)
            have hgcb : gc ≠ b := by have := HG.out.2.1.le; omega
            have hbB : w.heap.size ≤ b := HL.out.1.1.2.2.2.2.2
            have gs : wr.grownBy (wr.setCell ⟨b, cur, none⟩ (.bool true)) (some b) := grow_set (World.grownBy.refl _ _) _ _
            have HS2 : Hid (BB n b (seen.set cur true) (wr.setCell ⟨b, cur, none⟩ (.bool true)) ∧ Rw W0.heap.size gc m cc done (wr.setCell ⟨b, cur, none⟩ (.bool true)) ∧ W0.grownBy (wr.setCell ⟨b, cur, none⟩ (.bool true)) (some b)) := ⟨HG.out.1.set HC.out.len cur true, HG.out.2.1.grown gs (by simpa using fun e => hgcb e.symm), grow_trans HG.out.2.2 gs⟩
            have hzw := HG.out.2.2.size
            have hm11 : m + 1 ≤ 12 := by have := HC2.out.size; rw [List.length_append, HMm.out] at this; exact this
            clear hs hx hx1 hx2 HC HG gs
            have hzs : (wr.setCell ⟨b, cur, none⟩ (.bool true)).heap.size = wr.heap.size := by simp [World.setCell]
            have hnew := cell_one_new (wr.setCell ⟨b, cur, none⟩ (.bool true)) (.int .i64 cur) 2
            rw [hzs] at hnew
            replace hnew := Lib.hid hnew
            replace hzs := Lib.hid hzs
            have HQ : Hid (∀ V : World, ((wr.setCell ⟨b, cur, none⟩ (.bool true)).alloc (.cells #[.int .i64 cur] 2)).grownBy V (Value.slice (some ⟨gc, 0, none⟩) m cc).ownBlock → Below w.heap.size w V) := fun V hV => by
              have h1 := HBw.out.setCell (p := ⟨b, cur, none⟩) hbB (.bool true)
              have h2 := h1.size
              exact (h1.alloc h2 _).grown hV (by rw [World.size_alloc]; omega) (fun q e => by simp [Value.ownBlock] at e; have := HS2.out.2.1.le; omega)
            go_wp2_with (at_builtin; refine wpList_append_own_at _ rfl _ _ 22 rfl W0.heap.size 2 i0 (.int .i64 0) 1 8 Try.underlying22 hi hz0 hz1 hz2 rfl (by decide) _ _ _ rfl (World.ownsRow.alloc (HS2.out.2.1) _) ⟨wr.heap.size, 0, none⟩ 1 1 [.int .i64 cur] rfl rfl (hnew.out) (by intro u hu; simp at hu; subst hu; rfl) (by unfold maxLen; omega) (by omega) (by rw [World.size_alloc, hzs.out]; omega) ?_; intro v1 w1 hown1 hgrow1 hnil1 hat1; have hcx := ((HQ.out w1 hgrow1).cell (p := ⟨g0, off + cur, none⟩) hg0).trans hc0)
            obtain ⟨g1, cap1, rfl, hr1, hg1, hgr⟩ := Rw.app HS2.out.2.1 hown1 hgrow1 hat1
            have hgle := HS2.out.2.1.le
            have HS3 : Hid (BB n b (seen.set cur true) w1 ∧ Rw W0.heap.size g1 (m + 1) cap1 (done ++ [(cur : Int)]) w1 ∧ W0.grownBy w1 (some b)) := by
              refine ⟨HS2.out.1.grown hgr (by simpa using hgcb), hr1, ?_⟩
              have h1 := HS2.out.2.2
              exact ⟨hgr.os.trans h1.os, hgr.tape.trans h1.tape, hgr.output.trans h1.output, Nat.le_trans h1.size hgr.size, fun q hq hne => (hgr.block q (Nat.lt_of_lt_of_le hq h1.size) (fun e => by cases e; omega)).trans (h1.block q hq hne)⟩
            clear hown1 hgrow1 hnil1 hat1 hr1 hg1 hgr HS2 HBw hc0 c1 c2
            go_roundw
            case rel => exact ⟨g1, cap1, m + 1, X, _, _, by rw [List.length_append, HMm.out]; rfl, hm11, hXn, rfl, rfl, HC2, HS3⟩
            case measure => simp [lenV7]; omega
    · obtain rfl : k = n := by omega
      have HF := Lib.hid HL.out.1.le
      have HB := Lib.hid HL.out.2.2
      have HLk := Lib.hid hLk
      clear HL hLk
      go_wp2
      go_ret2
      rw [HLk.out]
      exact ⟨_, rfl, HF.out, HB.out⟩
theorem specCycles_no (a : Option Addr) (n cap : Nat) (xs : List Int) (w : World) (h : RO w.heap.size w a xs) (hn : xs.length = n) (hl : n ≤ 1048576) (hO : ¬ OrdP xs) (hcap : n ≤ cap) :
    Calls Try.prog 31 #[.slice a n cap] w (RowsRet w 0 (fun _ => []) false) := by
  have HI := Lib.hid (is_any a n cap xs w h hn hl hcap false (decide_eq_false hO))
  clear h hn hO
  go_enter Try.func31, Try.ntmps31
  go_wp2_with fail
  refine (HI.out).mono ?_
  rintro e w1 ⟨rfl, m1, rfl⟩
  go_wp2
  go_ret2
  exact ⟨_, rfl, .inl ⟨rfl, rfl⟩, below_drewN (Below.refl _ _) m1⟩
theorem rows_len (xs : List Int) (L k : Nat) (hk : k ≤ 12) : (cysD xs L k).2.length ≤ 13 ∧ ∀ d, ((cysD xs L k).2.getD d []).length ≤ 16 := by
  obtain ⟨h1, h2⟩ := cysD_count xs L k
  refine ⟨by omega, fun d => ?_⟩
  rw [List.getD_eq_getElem?_getD]
  cases hd : (cysD xs L k).2[d]? with
  | none => simp
  | some l =>
    have := h2 l (List.mem_of_getElem? hd)
    simp only [Option.getD_some]
    omega
theorem lawCyclesOf (a : Option Addr) (n cap : Nat) (zs : List Int) (w : World) (h : RowIn .i64 w a n zs) :
    Calls Try.prog 9 #[.slice a n cap] w fun e w' => e = .returned (.bool true) ∧ Below w.heap.size w w' :=
  lawCyclesOf_any a n cap zs w h fun ys hn hl hr => by
    by_cases hO : OrdP ys
    · have h12 : n ≤ 12 := by have := hO.1.2; omega
      obtain ⟨r1, r2⟩ := rows_len ys 12 n h12
      have e := (cysD_alike (xs := ys) (n := n) (L := 12) (M := n) (by rw [← hn]; exact hO.2.1) h12 (Nat.le_refl _) n (Nat.le_refl _)).1
      refine lawCyclesOf_core a n cap ys _ _ true w hr hn hl r1 r2 (fun W b c hb hc => ?_) (fun W b c hb _ => cycles_yes b n c ys W hb hn hO)
      rw [e]
      exact specCycles_yes b n c ys W hb hn hO hc
    · exact lawCyclesOf_core a n cap ys 0 (fun _ => []) false w hr hn hl (by omega) (fun _ => Nat.zero_le _) (fun W b c hb hc => specCycles_no b n c ys W hb hn hl hO hc) (fun W b c hb _ => cycles_no b n c ys W hb hn hl hO)
end Go.Proofs.Ytjbojamhnapkpab
