/- Several builders side by side: strings.Builder's WriteByte and String, with the blocks that they change. -/
import Derived.Test.YtamedggnkbhgeabBuil
import Derived.Maps.AppendAt
import Derived.RegionTactic
namespace Go.Proofs.Ytamedggnkbhgeab
open Go.RowKit Go.PlainAid
set_option maxHeartbeats 1000000

/-- from w to w', no old block but b and G has changed -/
def Tch (b : Nat) (G : Option Nat) (w w' : World) : Prop := w'.os = w.os ∧ w'.tape = w.tape ∧ w'.output = w.output ∧ w.heap.size ≤ w'.heap.size ∧ ∀ k, k < w.heap.size → k ≠ b → some k ≠ G → w'.heap[k]? = w.heap[k]?
theorem Tch.below {B b : Nat} {G : Option Nat} {w w' : World} (h : Tch b G w w') (hb : B ≤ b) (hG : ∀ g, G = some g → B ≤ g) (hw : B ≤ w.heap.size) : Below B w w' :=
  ⟨h.1, h.2.1, h.2.2.1, h.2.2.2.1, fun k hk => h.2.2.2.2 k (by omega) (by omega) (fun e => by have := hG k e.symm; omega)⟩
/-- a builder in block b that holds the bytes l, in a buffer in block G -/
def BAt (B b : Nat) (l : List Int) (G : Option Nat) (w : World) : Prop :=
  B ≤ b ∧ ∃ p v : Value, (p = .pointer none ∨ p = .pointer (some ⟨b, 0, none⟩)) ∧ w.heap[b]? = some (.cells #[p, v] 67 (0, 0)) ∧ w.ownsRow B 5 1 v l.length (l.map (Value.int .u8)) ∧ v.ownBlock = G
theorem own_has {w : World} {B n : Nat} {e : TypeId} {v : Value} {xs : List Value} (h : w.ownsRow B e 1 v n xs) {g : Nat} (hg : v.ownBlock = some g) : B ≤ g ∧ ∃ cur, w.heap[g]? = some (.cells cur e (0, 0)) := by
  rcases h.2 with ⟨rfl, _⟩ | ⟨g', cap, cur, rfl, hb, hh, _⟩
  · simp [Value.ownBlock] at hg
  · simp [Value.ownBlock] at hg
    subst hg
    exact ⟨hb, cur, hh⟩
theorem BAt.lt {B b : Nat} {l : List Int} {G : Option Nat} {w : World} (h : BAt B b l G w) : b < w.heap.size := by
  obtain ⟨_, p, v, _, hb, _⟩ := h
  exact (Array.getElem?_eq_some_iff.1 hb).1
theorem BAt.buf {B b : Nat} {l : List Int} {G : Option Nat} {w : World} (h : BAt B b l G w) {g : Nat} (hg : G = some g) : B ≤ g ∧ ∃ cur, w.heap[g]? = some (.cells cur 5 (0, 0)) := by
  obtain ⟨_, p, v, _, hb, ho, hv⟩ := h
  exact own_has ho (hv.trans hg)
theorem BAt.buf_lt {B b : Nat} {l : List Int} {G : Option Nat} {w : World} (h : BAt B b l G w) {g : Nat} (hg : G = some g) : B ≤ g ∧ g < w.heap.size := by
  obtain ⟨h1, cur, h2⟩ := h.buf hg
  exact ⟨h1, (Array.getElem?_eq_some_iff.1 h2).1⟩
/-- a builder's block is no buffer -/
theorem BAt.not_buf {B b c : Nat} {l m : List Int} {G H : Option Nat} {w : World} (h : BAt B b l G w) (k : BAt B c m H w) : some b ≠ H := by
  intro e
  obtain ⟨_, cur, h2⟩ := k.buf e.symm
  obtain ⟨_, p, v, _, hb, _⟩ := h
  rw [h2] at hb
  simp at hb
/-- another builder stands -/
theorem BAt.keep {B b c : Nat} {l : List Int} {G H : Option Nat} {w w' : World} (h : BAt B b l G w) (ht : Tch c H w w') (hbc : b ≠ c) (hbH : some b ≠ H) (hcG : some c ≠ G) (hGH : ∀ g, G = some g → H ≠ some g) : BAt B b l G w' := by
  have hlt := h.lt
  obtain ⟨hB, p, v, hp, hb, ho, hv⟩ := h
  refine ⟨hB, p, v, hp, by rw [ht.2.2.2.2 b hlt hbc hbH]; exact hb, ?_, hv⟩
  obtain ⟨h1, h2 | ⟨g, cap, cur, hvv, hg, hh, r⟩⟩ := ho
  · exact ⟨h1, .inl h2⟩
  · have hGg : G = some g := by rw [← hv, hvv]; rfl
    refine ⟨h1, .inr ⟨g, cap, cur, hvv, hg, ?_, r⟩⟩
    rw [ht.2.2.2.2 g (Array.getElem?_eq_some_iff.1 hh).1 (fun e => hcG (by rw [hGg, e])) (fun e => hGH g hGg e.symm)]
    exact hh

/-- what copyCheck leaves -/
def Checked (B b : Nat) (l : List Int) (G : Option Nat) (w : World) (e : Ending) (w' : World) : Prop :=
  ∃ v : Value, e = .returned (.tuple #[]) ∧ w'.heap[b]? = some (.cells #[.pointer (some ⟨b, 0, none⟩), v] 67 (0, 0)) ∧ w'.ownsRow B 5 1 v l.length (l.map (Value.int .u8)) ∧ v.ownBlock = G ∧ G ≠ some b ∧ w.grownBy w' (some b) ∧ w'.heap.size = w.heap.size
theorem copyCheck_at (B b : Nat) (l : List Int) (G : Option Nat) (w : World) (h : BAt B b l G w) :
    Calls Try.prog 75 #[.pointer (some ⟨b, 0, none⟩)] w (Checked B b l G w) := by
  have hlt := h.lt
  obtain ⟨hB, p, v, hp, hb, ho, hv⟩ := h
  have hne := Lib.ownBlock_ne ho hb (by decide)
  rcases hp with rfl | rfl
  · refine (copyCheck_fresh b w (by rw [Lib.cell_of_heap hb]; rfl) (by simp [World.shape?, hb]) (by simp [World.frozen?, hb])).mono ?_
    rintro e w' ⟨rfl, rfl⟩
    have hg : w.grownBy (w.setCell ⟨b, 0, none⟩ (.pointer (some ⟨b, 0, none⟩))) (some b) := ⟨rfl, rfl, rfl, by simp [World.setCell], fun k _ hk => Below.heap_setCell _ _ _ _ (fun e => hk (by simp [e]))⟩
    exact ⟨v, rfl, by simp [World.setCell, Array.getElem?_modify, hb], ho.kept hg (.inr hne), hv, hv ▸ hne, hg, by simp [World.setCell]⟩
  · refine (copyCheck_used b w (by rw [Lib.cell_of_heap hb]; rfl)).mono ?_
    rintro e w' ⟨rfl, rfl⟩
    exact ⟨v, rfl, hb, ho, hv, hv ▸ hne, World.grownBy.refl _ _, rfl⟩

/-- what WriteByte leaves -/
def Wrote (B b : Nat) (l : List Int) (G : Option Nat) (w : World) (e : Ending) (w' : World) : Prop :=
  e = .returned .nilIface ∧ ∃ G' : Option Nat, BAt B b l G' w' ∧ (G' = G ∨ ∃ g, G' = some g ∧ w.heap.size ≤ g) ∧ Tch b G w w'
theorem wrote_end {B b : Nat} {l : List Int} {c : Int} {G : Option Nat} {w w1 w2 : World} {v v1 : Value} {x : Obj} (hB : B ≤ b) (hlt : b < w.heap.size) (hg1 : w.grownBy w1 (some b)) (hz : w1.heap.size = w.heap.size)
    (hbk : w1.heap[b]? = some (.cells #[.pointer (some ⟨b, 0, none⟩), v] 67 (0, 0))) (hv : v.ownBlock = G) (hne : G ≠ some b)
    (hgrow : (w1.alloc x).grownBy w2 v.ownBlock) (hown : w2.ownsRow B 5 1 v1 (l.length + 1) (l.map (Value.int .u8) ++ [.int .u8 c])) (hob : v1.ownBlock = v.ownBlock ∨ v1.ownBlock = some (w1.heap.size + 1)) :
    ∃ G' : Option Nat, BAt B b (l ++ [c]) G' (w2.setCell ⟨b, 1, none⟩ v1) ∧ (G' = G ∨ ∃ g, G' = some g ∧ w.heap.size ≤ g) ∧ Tch b G w (w2.setCell ⟨b, 1, none⟩ v1) := by
  have hsz : (w1.alloc x).heap.size = w1.heap.size + 1 := by simp
  have hb2 : w2.heap[b]? = some (.cells #[.pointer (some ⟨b, 0, none⟩), v] 67 (0, 0)) := by
    rw [hgrow.block b (by omega) (by rw [hv]; exact fun e => hne e.symm), Lib.alloc_old w1 x b (by omega)]
    exact hbk
  have hown2 : w2.ownsRow B 5 1 v1 (l ++ [c]).length ((l ++ [c]).map (Value.int .u8)) := by simpa using hown
  have hne1 := Lib.ownBlock_ne hown2 hb2 (by decide)
  have hs : w2.grownBy (w2.setCell ⟨b, 1, none⟩ v1) (some b) := ⟨rfl, rfl, rfl, by simp [World.setCell], fun k _ hk => Below.heap_setCell _ _ _ _ (fun e => hk (by simp [e]))⟩
  refine ⟨v1.ownBlock, ⟨hB, .pointer (some ⟨b, 0, none⟩), v1, .inr rfl, ?_, hown2.kept hs (.inr hne1), rfl⟩, ?_, ?_, ?_, ?_, ?_, ?_⟩
  · simp [World.setCell, Array.getElem?_modify, hb2]
  · rcases hob with h | h
    · exact .inl (h.trans hv)
    · exact .inr ⟨_, h, by omega⟩
  · exact (hs.os.trans hgrow.os).trans hg1.os
  · exact (hs.tape.trans hgrow.tape).trans hg1.tape
  · exact (hs.output.trans hgrow.output).trans hg1.output
  · have := hgrow.size; have := hs.size; omega
  · intro k hk hkb hkG
    have h2 := hgrow.size
    rw [hs.block k (by omega) (fun e => hkb (Option.some.inj e)), hgrow.block k (by omega) (by rw [hv]; exact hkG), Lib.alloc_old w1 x k (by omega), hg1.block k hk (fun e => hkb (Option.some.inj e))]
set_option maxRecDepth 20000 in
theorem writeByte_at (B b : Nat) (l : List Int) (c : Int) (G : Option Nat) (w : World) (h : BAt B b l G w) (hlen : l.length ≤ 1048576) (hBw : B ≤ w.heap.size) :
    Calls Try.prog 74 #[.pointer (some ⟨b, 0, none⟩), .int .u8 c] w (Wrote B b (l ++ [c]) G w) := by
  obtain ⟨i0, hi, hz0, hz1, hz2⟩ := info_parts Try.info5
  have HH := Lib.hid h
  have HLT := Lib.hid h.lt
  clear h
  go_enter Try.func74, Try.ntmps74
  go_wp2_with fail
  refine (copyCheck_at B b l G w HH.out).mono ?_
  rintro e w1 ⟨v, rfl, hbk, hown, hv, hne, hg1, hz⟩
  have c0 : w1.cell? ⟨b, 0, none⟩ = some (.pointer (some ⟨b, 0, none⟩)) := by rw [Lib.cell_of_heap hbk]; rfl
  have c1 : w1.cell? ⟨b, 1, none⟩ = some v := by rw [Lib.cell_of_heap hbk]; rfl
  have HBK := Lib.hid hbk
  have HNE := Lib.hid hne
  have HG1 := Lib.hid hg1
  have HV := Lib.hid hv
  have HZ := Lib.hid hz
  clear hbk hne hg1 hv hz
  go_wp2_with (at_builtin; refine wpList_append_own_at _ rfl _ _ 65 rfl B 5 i0 (.int .u8 0) 1 1 Try.underlying65 hi hz0 hz1 hz2 rfl (by decide) _ _ _ rfl (hown.alloc _) ⟨w1.heap.size, 0, none⟩ 1 1 [.int .u8 c] rfl rfl (cell_one_new _ _ _) (by intro u hu; simp at hu; subst hu; rfl) (by unfold maxLen; omega) (by omega) (by have := HZ.out; rw [World.size_alloc]; omega) ?_)
  intro v1 w2 hown2 hgrow _ hob
  obtain ⟨g1, cap1, rfl⟩ := own_slice hown2
  have h10 := HZ.out
  have h11 := HLT.out
  have h12 : b < (w1.alloc (.cells #[.int .u8 c] 5)).heap.size := by rw [World.size_alloc]; omega
  have hb2 : w2.heap[b]? = some (.cells #[.pointer (some ⟨b, 0, none⟩), v] 67 (0, 0)) := (hgrow.block b h12 (by rw [HV.out]; exact fun e => HNE.out e.symm)).trans ((Lib.alloc_old w1 _ b (by omega)).trans HBK.out)
  clear h10 h11 h12
  have d1 : w2.cell? ⟨b, 1, none⟩ = some v := (Lib.cell_of_heap hb2 1).trans rfl
  have f1 : w2.frozen? ⟨b, 1, none⟩ = false := Lib.frozen_of_heap hb2 1
  have HO2 := Lib.hid hown2
  have HG2 := Lib.hid hgrow
  have HOB := Lib.hid hob
  clear hown2 hgrow hob hb2 c0 c1
  go_wp2
  go_ret
  exact ⟨rfl, wrote_end HH.out.1 HLT.out HG1.out HZ.out HBK.out HV.out HNE.out HG2.out HO2.out HOB.out⟩

/-- what String leaves: its buffer is frozen, or a new block stands for an address -/
def Strung (l : List Int) (b : Nat) (G : Option Nat) (w : World) (e : Ending) (w' : World) : Prop := e = .returned (.string (strOfNums l)) ∧ Tch b G w w'
theorem Tch.refl (b : Nat) (G : Option Nat) (w : World) : Tch b G w w := ⟨rfl, rfl, rfl, Nat.le_refl _, fun _ _ _ _ => rfl⟩
theorem Tch.drew {b : Nat} {G : Option Nat} {w w' : World} (h : Tch b G w w') : Tch b G w w'.drew := h
theorem tch_freeze {b g n : Nat} {w : World} : Tch b (some g) w (w.drew.freeze ⟨g, 0, none⟩ n) := by
  unfold World.freeze
  split
  · exact Tch.refl b (some g) w
  · refine ⟨rfl, rfl, rfl, Nat.le_of_eq (Array.size_modify ..).symm, fun k _ _ hk => ?_⟩
    show (Array.modify _ _ _)[k]? = _
    rw [Array.getElem?_modify, if_neg (fun e => hk (by rw [← e]))]
    rfl
theorem tch_new {b : Nat} {G : Option Nat} {w : World} (o : Obj) : Tch b G w (w.drew.alloc o) :=
  ⟨rfl, rfl, rfl, by rw [World.size_alloc]; exact Nat.le_succ _, fun k hk _ _ => Lib.alloc_old w.drew o k hk⟩
theorem bytes_nums (l : List Int) (hl : ∀ x ∈ l, 0 ≤ x ∧ x ≤ 255) : l.map (Value.int .u8) = Lib.byteCells (l.map fun n => UInt8.ofNat n.toNat) := by
  unfold Lib.byteCells
  rw [List.map_map]
  apply List.map_congr_left
  intro x hx
  have := hl x hx
  show Value.int .u8 x = Value.int .u8 ((UInt8.ofNat x.toNat).toNat : Int)
  congr 1
  simp
  omega
set_option maxRecDepth 100000 in
theorem string_at (B b : Nat) (l : List Int) (G : Option Nat) (w : World) (h : BAt B b l G w) (hl : ∀ x ∈ l, 0 ≤ x ∧ x ≤ 255) :
    Calls Try.prog 53 #[.pointer (some ⟨b, 0, none⟩)] w (Strung l b G w) := by
  have hlt := h.lt
  obtain ⟨hB, p, v, hp, hb, ho, hv⟩ := h
  have hc1 : ∀ W : World, W.heap[b]? = some (.cells #[p, v] 67 (0, 0)) → W.cell? ⟨b, 1, none⟩ = some v := fun W hW => by rw [Lib.cell_of_heap hW]; rfl
  have c1 : w.drew.cell? ⟨b, 1, none⟩ = some v := hc1 w.drew hb
  have c0 : w.cell? ⟨b, 1, none⟩ = some v := c1
  have hUS : ∀ (W : World) (q : Option Addr), (Builtin.unsafeString_ #[92, 3] 9 #[.pointer q, .int .i64 0]).run Try.prog W = .ok (.string .empty) W := fun W q => Lib.run_unsafeString_none W _ _ _ q
  by_cases h0 : l = []
  · subst h0
    rcases ho.2 with ⟨rfl, _⟩ | ⟨g, cap, cur, rfl, hbg, hg, _, _, _, _⟩
    · have hSD : (Builtin.unsafeSliceData_ #[65] 92 #[.slice none 0 0]).run Try.prog w.drew = .ok (.pointer none) w.drew := rfl
      clear ho hp hv
      go_enter Try.func53, Try.ntmps53
      go_wp2
      go_region
      all_goals (go_wp2; go_ret; exact ⟨rfl, (Tch.refl _ _ _).drew⟩)
    · by_cases hc : cap = 0
      · subst hc
        have hSD : (Builtin.unsafeSliceData_ #[65] 92 #[.slice (some ⟨g, 0, none⟩) 0 0]).run Try.prog w.drew = .ok (.pointer (some ⟨w.drew.heap.size, 0, none⟩)) (w.drew.alloc (.view ⟨g, 0, none⟩ 5)) :=
          Lib.run_unsafeSliceData_zero w.drew _ _ 5 Try.underlying92 ⟨g, 0, none⟩ 0 (5, cur.size) (by have hg' : w.drew.heap[g]? = some (.cells cur 5 (0, 0)) := hg; simp [World.shape?, hg'])
        have c2 : (w.drew.alloc (.view ⟨g, 0, none⟩ 5)).cell? ⟨b, 1, none⟩ = some (.slice (some ⟨g, 0, none⟩) 0 0) := hc1 _ ((Lib.alloc_old w.drew _ b hlt).trans hb)
        have c3 : (w.alloc (.view ⟨g, 0, none⟩ 5)).drew.cell? ⟨b, 1, none⟩ = some (.slice (some ⟨g, 0, none⟩) 0 0) := c2
        clear ho hp hv hc1
        go_enter Try.func53, Try.ntmps53
        go_wp2
        go_region
        all_goals (go_wp2; go_ret; exact ⟨rfl, tch_new _⟩)
      · have hSD : (Builtin.unsafeSliceData_ #[65] 92 #[.slice (some ⟨g, 0, none⟩) 0 cap]).run Try.prog w.drew = .ok (.pointer (some ⟨g, 0, none⟩)) w.drew := Lib.run_unsafeSliceData_row _ _ _ _ _ _ hc
        clear ho hp hv hc hc1
        go_enter Try.func53, Try.ntmps53
        go_wp2
        go_region
        all_goals (go_wp2; go_ret; exact ⟨rfl, (Tch.refl _ _ _).drew⟩)
  · have hl0 : l.length ≠ 0 := by simpa using h0
    obtain ⟨g, cap, cur, rfl, hbg, hg, hnc, hcm, hcs, htake⟩ : ∃ g cap cur, v = .slice (some ⟨g, 0, none⟩) l.length cap ∧ B ≤ g ∧ w.heap[g]? = some (.cells cur 5 (0, 0)) ∧ l.length ≤ cap ∧ cap ≤ maxLen ∧ cur.size = cap * 1 ∧ cur.toList.take (l.length * 1) = l.map (Value.int .u8) := by
      rcases ho.2 with ⟨_, hz⟩ | ⟨g, cap, cur, hv, r⟩
      · exact absurd hz hl0
      · exact ⟨g, cap, cur, hv, r⟩
    have hSD : (Builtin.unsafeSliceData_ #[65] 92 #[.slice (some ⟨g, 0, none⟩) l.length cap]).run Try.prog w.drew = .ok (.pointer (some ⟨g, 0, none⟩)) w.drew := Lib.run_unsafeSliceData_row _ _ _ _ _ _ (by omega)
    obtain ⟨u, hu⟩ : ∃ u : List UInt8, u = l.map fun n => UInt8.ofNat n.toNat := ⟨_, rfl⟩
    have hul : u.length = l.length := by rw [hu, List.length_map]
    have hUS2 : (Builtin.unsafeString_ #[92, 3] 9 #[.pointer (some ⟨g, 0, none⟩), .int .i64 l.length]).run Try.prog w.drew = .ok (.string (strOfNums l)) (w.drew.freeze ⟨g, 0, none⟩ l.length) := by
      have hr := Lib.run_unsafeString_row (P := Try.prog) w.drew 92 3 9 5 Try.underlying92 (by kernel_rfl) g cur.size (by have hg' : w.drew.heap[g]? = some (.cells cur 5 (0, 0)) := hg; simp [World.shape?, hg']) u (by intro e; rw [e] at hul; exact hl0 hul.symm) (by omega) (by unfold maxLen at hcm; omega) (fun j x hx => by
        rw [bytes_nums l hl, ← hu] at ho
        have := ho.cells (g := g) rfl j (.int .u8 x.toNat) (by simp [Lib.byteCells, hx])
        exact this)
      rw [hul] at hr
      rw [hr, hu]
      rfl
    have hG : Hid (G = some g) := hv.symm
    clear hUS ho hp hv hc1 hu hul htake hcs hg hb
    go_enter Try.func53, Try.ntmps53
    go_wp2
    go_region
    all_goals (go_wp2; go_ret; exact ⟨rfl, by rw [hG.out]; exact tch_freeze⟩)
end Go.Proofs.Ytamedggnkbhgeab
