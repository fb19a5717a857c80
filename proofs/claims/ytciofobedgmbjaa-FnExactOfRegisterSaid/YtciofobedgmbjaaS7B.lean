/- Choices that are read one by one, and shuffles by them. -/
import Derived.Test.YtciofobedgmbjaaS7O
import Derived.Deep.RegionHeld3
namespace Go.Proofs.Ytciofobedgmbjaa
open Go.RowKit Go.PlainAid
set_option maxHeartbeats 800000

/-- a reader in a block, from a cell on: the choices that are left, and whether it has failed -/
def CR (b o top : Nat) (cs : List Int) (f : Bool) (W : World) : Prop := top ≤ b ∧ ∃ a c, (W.cell? ⟨b, o, none⟩ = some (.slice a cs.length c) ∧ W.frozen? ⟨b, o, none⟩ = false) ∧ (W.cell? ⟨b, o + 1, none⟩ = some (.bool f) ∧ W.frozen? ⟨b, o + 1, none⟩ = false) ∧ RO top W a cs ∧ cs.length ≤ c
theorem CR.lt {b o top : Nat} {cs : List Int} {f : Bool} {W : World} (h : CR b o top cs f W) : b < W.heap.size := by
  obtain ⟨_, a, c, h, _⟩ := h
  exact World.block_lt_of_cell? W _ h.1
theorem CR.drewN {b o top : Nat} {cs : List Int} {f : Bool} {W : World} (h : CR b o top cs f W) (m : Nat) : CR b o top cs f (W.drewN m) := h
theorem CR.grown {b o top : Nat} {cs : List Int} {f : Bool} {W W' : World} {row : Option Nat} (h : CR b o top cs f W) (hg : W.grownBy W' row) (hne : row ≠ some b) (hr : ∀ g, row = some g → top ≤ g) : CR b o top cs f W' := by
  have hl := h.lt
  obtain ⟨h0, a, c, ⟨h1, h2⟩, ⟨h3, h4⟩, h5, h6⟩ := h
  have hb := hg.block b hl (Ne.symm hne)
  refine ⟨h0, a, c, ⟨(World.cell?_of_block (a := ⟨b, o, none⟩) hb).trans h1, (World.frozen?_of_block (a := ⟨b, o, none⟩) hb).trans h2⟩, ⟨(World.cell?_of_block (a := ⟨b, o + 1, none⟩) hb).trans h3, (World.frozen?_of_block (a := ⟨b, o + 1, none⟩) hb).trans h4⟩, fun i x hx => ?_, h6⟩
  obtain ⟨g, off, ha, hg2, hc⟩ := h5 i x hx
  refine ⟨g, off, ha, hg2, (World.cell?_of_block (a := ⟨g, off + i, none⟩) (hg.block g (by omega) (fun e => ?_))).trans hc⟩
  have := hr g e.symm
  omega
theorem RO.tail7 {top : Nat} {w : World} {g off : Nat} {x : Int} {xs : List Int} (h : RO top w (some ⟨g, off, none⟩) (x :: xs)) : RO top w (some ⟨g, off + 1, none⟩) xs := fun i y hy => by
  obtain ⟨g2, off2, he, hg, hc⟩ := h (i + 1) y hy
  cases he
  exact ⟨g, off + 1, rfl, hg, by rw [show off + 1 + i = off + (i + 1) by omega]; exact hc⟩
theorem RO.nil7 {top : Nat} {w : World} (a : Option Addr) : RO top w a [] := fun i x hx => by simp at hx
/-- the reader when a choice has been taken -/
theorem CR.took {b o top c2 : Nat} {a2 : Option Addr} {x : Int} {cs : List Int} {f : Bool} {W : World} (h : CR b o top (x :: cs) f W) (hr : RO top W a2 cs) (hc : cs.length ≤ c2) : CR b o top cs f (W.setCell ⟨b, o, none⟩ (.slice a2 cs.length c2)) := by
  obtain ⟨h0, a, c, ⟨h1, h2⟩, ⟨h3, h4⟩, h5, h6⟩ := h
  refine ⟨h0, a2, c2, ⟨World.cell?_setCell_same W _ _ h1, by rw [World.frozen?_setCell]; exact h2⟩, ⟨(cell_ne (by omega)).trans h3, by rw [World.frozen?_setCell]; exact h4⟩, fun i y hy => ?_, hc⟩
  obtain ⟨g, off, ha, hg, hcc⟩ := hr i y hy
  exact ⟨g, off, ha, hg, (World.cell?_setCell_other W _ _ _ (fun e => by have := congrArg Addr.block e; simp at this; omega)).trans hcc⟩
theorem CR.fail {b o top : Nat} {cs : List Int} {f : Bool} {W : World} (h : CR b o top cs f W) (v : Bool) : CR b o top cs v (W.setCell ⟨b, o + 1, none⟩ (.bool v)) := by
  obtain ⟨h0, a, c, ⟨h1, h2⟩, ⟨h3, h4⟩, h5, h6⟩ := h
  refine ⟨h0, a, c, ⟨(cell_ne (by omega)).trans h1, by rw [World.frozen?_setCell]; exact h2⟩, ⟨World.cell?_setCell_same W _ _ h3, by rw [World.frozen?_setCell]; exact h4⟩, fun i y hy => ?_, h6⟩
  obtain ⟨g, off, ha, hg, hcc⟩ := h5 i y hy
  exact ⟨g, off, ha, hg, (World.cell?_setCell_other W _ _ _ (fun e => by have := congrArg Addr.block e; simp at this; omega)).trans hcc⟩
/-- what is chosen: the list, or nothing if a choice failed -/
def pickL (f : Bool) (v : Value) : Value := if f then .slice none 0 0 else v
theorem undrew7 {W0 w : World} {rw : Option Nat} (h : W0.drew.grownBy w rw) : W0.grownBy w rw := ⟨h.os, h.tape, h.output, h.size, h.block⟩
/-- a shuffle in block b: its order in block g of n numbers, and the choices that are left -/
def Sh (B b g n top : Nat) (xs cs : List Int) (f : Bool) (W : World) : Prop := (W.cell? ⟨b, 0, none⟩ = some (.slice (some ⟨g, 0, none⟩) n n) ∧ g < b) ∧ CR b 1 top cs f W ∧ Rw B g n n xs W ∧ top ≤ B
theorem shD_step (cs : List Int) (gap n k : Nat) : shD cs gap n (k + 1) = (swp (shD cs gap n k).1 (n - 1 - k) (if 0 ≤ cs.getD k 0 ∧ cs.getD k 0 ≤ ((n - 1 - k : Nat) : Int) - gap then (cs.getD k 0).toNat else 0), if 0 ≤ cs.getD k 0 ∧ cs.getD k 0 ≤ ((n - 1 - k : Nat) : Int) - gap then (shD cs gap n k).2 else true) := by
  by_cases h : 0 ≤ cs.getD k 0 ∧ cs.getD k 0 ≤ ((n - 1 - k : Nat) : Int) - gap
  · rw [shD_yes h, if_pos h, if_pos h]
  · rw [shD_no h, if_neg h, if_neg h]
theorem drop_cons {cs : List Int} {k : Nat} (h : k < cs.length) : cs.drop k = cs.getD k 0 :: cs.drop (k + 1) := by
  rw [List.drop_eq_getElem_cons h, List.getD_eq_getElem?_getD, List.getElem?_eq_getElem h]
  rfl
/-- what a shuffle returns -/
def shRes (cs : List Int) (gap : Nat) : List Int × Bool := if cs.length ≤ 11 ∧ (shD cs gap (cs.length + 1) cs.length).2 = false then ((shD cs gap (cs.length + 1) cs.length).1, true) else ([], false)
theorem shRes_length (cs : List Int) (gap : Nat) : (shRes cs gap).1.length ≤ 12 := by
  unfold shRes
  split
  · rename_i h
    rw [shD_length]
    omega
  · exact Nat.zero_le _
/-- the value of a list that is returned -/
def ListRet (w : World) (xs : List Int) (ok : Bool) (e : Ending) (w' : World) : Prop := ∃ v, e = .returned (.tuple #[v, .bool ok]) ∧ SL w.heap.size w'.heap.size w' v xs ∧ Below w.heap.size w w'
theorem listRet_pick {B g n : Nat} {w w' : World} {xs : List Int} {f : Bool} {e : Ending} (he : e = .returned (.tuple #[pickL f (.slice (some ⟨g, 0, none⟩) n n), .bool (!f)])) (hr : Rw B g n n xs w') (hB : w.heap.size ≤ B) (hb : Below w.heap.size w w') : ListRet w (if f then [] else xs) (!f) e w' := by
  cases f
  · exact ⟨_, he, (hr.base hB).sl, hb⟩
  · exact ⟨_, he, .inl ⟨rfl, rfl⟩, hb⟩
/-- the list, or nothing if a choice failed -/
def orNil (s : List Int × Bool) : List Int := if s.2 then [] else s.1
theorem orNil_yes {s : List Int × Bool} (h : s.2 = false) : orNil s = s.1 := by unfold orNil; rw [h]; rfl
theorem orNil_no {s : List Int × Bool} (h : s.2 = true) : orNil s = [] := by unfold orNil; rw [h]; rfl
end Go.Proofs.Ytciofobedgmbjaa
