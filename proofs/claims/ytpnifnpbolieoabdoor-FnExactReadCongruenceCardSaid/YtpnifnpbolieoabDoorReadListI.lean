/- Lists read: impl.ReadList, and the law FnExactReadList. -/
import Derived.Test.YtpnifnpbolieoabDoorReadListS
import Derived.Shelf.Strings.SplitShaped
namespace Go.Proofs.YtpnifnpbolieoabDoor
open Go.RowKit Go.PlainAid
set_option maxHeartbeats 3200000

/-- the library's length limit is some number -/
def MaxN (w : World) : Prop := ∃ m, w.cell? ⟨1, 0, none⟩ = some (.int .i64 m)
theorem MaxN.on {w w1 : World} (h : MaxN w) (hb : Below w.heap.size w w1) : MaxN w1 := by
  obtain ⟨m, h⟩ := h
  exact ⟨m, (hb.cell (p := ⟨1, 0, none⟩) (World.block_lt_of_cell? w _ h)).trans h⟩
theorem maxN_of {w : World} (h : w.ShapedOpen Tryd.prog) : MaxN w := Tryd.laysM147.s1_3 w h
/-- what cutting at the commas gives: the parts, sixty-five of them at the most -/
def PartsOf (l : List UInt8) (ps : List ByteArray) : Prop := ps.length ≤ 65 ∧ (ps.length ≤ 64 → ps.map (fun p => p.data.toList) = segs l) ∧ (64 < ps.length → 64 < (segs l).length)
theorem parts_split (s : ByteArray) : PartsOf s.data.toList (Lib.splitB ⟨#[44]⟩ 0 (min 65 (s.size + 1) - 1) s) := by
  obtain ⟨h1, h2⟩ := split_segs (min 65 (s.size + 1) - 1) s.data.toList
  have hd := Lib.splitB_data ⟨#[44]⟩ 0 (min 65 (s.size + 1) - 1) s
  have hc : (⟨#[44]⟩ : ByteArray).data.toList = [44] := rfl
  rw [hc] at hd
  have hl := congrArg List.length hd
  rw [List.length_map, h1] at hl
  have hs := segs_len s.data.toList
  have hz : s.data.toList.length = s.size := Array.length_toList
  refine ⟨by omega, fun h => ?_, fun h => by omega⟩
  rw [← h2 (by omega)]
  exact hd
theorem split_call (s : ByteArray) (W : World) (hs : s.size ≤ 1048576) (hm : MaxN W) :
    Calls Tryd.prog 57 #[.string s, .string ⟨#[44]⟩, .int .i64 65] W fun e w' => ∃ ps cap, e = .returned (.slice (some ⟨W.heap.size, 0, none⟩) ps.length cap) ∧ ps.length ≤ cap ∧ PartsOf s.data.toList ps ∧ (∀ k p, ps[k]? = some p → w'.cell? ⟨W.heap.size, k, none⟩ = some (.string p)) ∧ (∃ cs, w'.heap[W.heap.size]? = some (.cells cs 9 (0, 0))) ∧ W.heap.size < w'.heap.size ∧ Below W.heap.size W w' := by
  obtain ⟨m, hm⟩ := hm
  refine (Any.strings_SplitN { Tryd.laysM147 with } Tryd.laysM147.i9 s ⟨#[44]⟩ 65 m W (by omega) hm (by decide) (by decide) (by decide)).mono ?_
  rintro e w' ⟨rfl, rfl⟩
  have hP := parts_split s
  have hle := Lib.splitB_length_le ⟨#[44]⟩ 0 (min 65 (s.size + 1) - 1) s
  generalize Lib.splitB ⟨#[44]⟩ 0 (min 65 (s.size + 1) - 1) s = ps at hP hle ⊢
  refine ⟨ps, _, rfl, by omega, hP, fun k p hk => ?_, ⟨_, by show (W.heap.push _)[W.heap.size]? = _; exact Array.getElem?_push_size⟩, by simp [go_sem], (Below.refl _ _).alloc (Nat.le_refl _) _⟩
  have hc : (Lib.cellsOf ps (min 65 (s.size + 1)))[k]? = some (.string p) := by
    unfold Lib.cellsOf
    rw [List.getElem?_toArray, List.getElem?_append_left (by rw [List.length_map]; exact (List.getElem?_eq_some_iff.1 hk).1), List.getElem?_map, hk]
    rfl
  simp [go_sem, hc]
theorem part_le {l : List UInt8} {ps : List ByteArray} (h : ps.map (fun p => p.data.toList) = segs l) {k : Nat} {p : ByteArray} (hk : ps[k]? = some p) : p.size ≤ l.length := by
  have hm : p.data.toList ∈ segs l := by
    rw [← h]
    exact List.mem_map.2 ⟨p, List.mem_of_getElem? hk, rfl⟩
  have := segs_mem l _ hm
  rw [Array.length_toList] at this
  exact this
theorem parts_cut {l : List UInt8} {ps : List ByteArray} (h : ps.map (fun p => p.data.toList) = segs l) {k : Nat} {p : ByteArray} (hk : ps[k]? = some p) {ys : List Int} (hy : (segs l).take k = ys.map Lib.itoa) :
    segs l = ys.map Lib.itoa ++ p.data.toList :: (segs l).drop (k + 1) := by
  have h1 : (segs l)[k]? = some p.data.toList := by rw [← h, List.getElem?_map, hk]; rfl
  obtain ⟨hl, he⟩ := List.getElem?_eq_some_iff.1 h1
  rw [← hy, ← he, ← List.drop_eq_getElem_cons hl, List.take_append_drop]
theorem parts_next {l : List UInt8} {k : Nat} {zs : List (List UInt8)} (h : segs l = zs ++ (segs l).drop (k + 1)) (_hk : k < (segs l).length) : (segs l).take (k + 1) = zs := by
  have h1 := List.take_append_drop (k + 1) (segs l)
  have h2 := h1.trans h
  exact List.append_cancel_right h2

/-- a row of numbers lies in no block of texts -/
theorem own_not {w : World} {B G n : Nat} {v : Value} {xs : List Value} {cs : Array Value} (h : w.ownsRow B 2 1 v n xs) (hG : w.heap[G]? = some (.cells cs 9 (0, 0))) : v.ownBlock ≠ some G := by
  rcases h with ⟨_, ⟨rfl, _⟩ | ⟨g, cap, cur, rfl, _, hc, _⟩⟩
  · simp [Value.ownBlock]
  · intro e
    simp [Value.ownBlock] at e
    subst e
    rw [hc] at hG
    simp at hG

set_option maxRecDepth 8000 in
theorem readList_any (s : ByteArray) (w : World) (hs : s.size ≤ 1048576) (hn : s ≠ ⟨#[110, 111, 110, 101]⟩) (ht : Tabs w) (hm : MaxN w) :
    Calls Tryd.prog 21 #[.string s] w fun e w' => (∃ v xs, e = .returned (.tuple #[v, .bool true]) ∧ NumsOf s.data.toList xs ∧ SL w.heap.size w'.heap.size w' v xs ∧ Below w.heap.size w w') ∨ (e = .returned (.tuple #[.slice none 0 0, .bool false]) ∧ (∀ xs, ¬ NumsOf s.data.toList xs) ∧ Below w.heap.size w w') := by
  obtain ⟨i0, hi, hz0, hz1, hz2⟩ := info_parts Tryd.info2
  obtain ⟨l, hl⟩ : ∃ l, s.data.toList = l := ⟨_, rfl⟩
  have hll : l.length = s.size := by rw [← hl]; exact Array.length_toList
  have HLL := Lib.hid hll
  have q1 : (s.toList == [110, 111, 110, 101]) = false := by
    rw [← none_list]
    exact ne_str hn
  have HT := Lib.hid ht
  have HB0 : Hid (Below w.heap.size w (w.alloc (.cells #[] 2))) := (Below.refl _ _).alloc (Nat.le_refl _) _
  have HW0 := Lib.hid (ownsRow_empty w 2 1)
  have HC : Hid (∀ W, Below w.heap.size w W → Calls Tryd.prog 57 #[.string s, .string ⟨#[44]⟩, .int .i64 65] W fun e w' => ∃ ps cap, e = .returned (.slice (some ⟨W.heap.size, 0, none⟩) ps.length cap) ∧ ps.length ≤ cap ∧ PartsOf l ps ∧ (∀ k p, ps[k]? = some p → w'.cell? ⟨W.heap.size, k, none⟩ = some (.string p)) ∧ (∃ cs, w'.heap[W.heap.size]? = some (.cells cs 9 (0, 0))) ∧ W.heap.size < w'.heap.size ∧ Below W.heap.size W w') := fun W hW => by
    rw [← hl]
    exact split_call s W hs (hm.on hW)
  rw [hl]
  clear hl hn hll ht hm
  go_enter Tryd.func21, Tryd.ntmps21
  go_wp2_with fail
  refine (HC.out _ HB0.out).mono ?_
  rintro e w1 ⟨ps, cap, rfl, hcap, hps, hcell, ⟨cs, hcs⟩, hbl, hb⟩
  have HW1 := Lib.hid (own_belowO HW0.out hb)
  have HB1 := Lib.hid (HB0.out.trans (hb.mono HB0.out.size))
  have hz1' := HB0.out.size
  obtain ⟨G, hG⟩ : ∃ G, (w.alloc (.cells #[] 2)).heap.size = G := ⟨_, rfl⟩
  have hGw : w.heap.size < G := by rw [← hG]; simp [go_sem]
  rw [hG] at hcell hbl hcs ⊢
  have HP := Lib.hid hps
  have HK := Lib.hid hcell
  have HS := Lib.hid hcs
  clear hb hcell hcs hps HB0 HW0 HC hz1' hG
  obtain ⟨m, hpm⟩ : ∃ m, ps.length = m := ⟨_, rfl⟩
  rw [hpm] at hcap ⊢
  have HM := Lib.hid hpm
  have hm65 : m ≤ 65 := by have := HP.out.1; omega
  clear hpm
  by_cases h64 : 64 < m
  · have t1 : (64 : Int) < (m : Int) := by omega
    have HN : Hid (∀ xs, ¬ NumsOf l xs) := fun xs ⟨x1, _, x3⟩ => by
      have h5 := HP.out.2.2 (by rw [HM.out]; exact h64)
      have h6 := congrArg List.length x3
      rw [List.length_map] at h6
      omega
    clear HW1 HT HP HM HK HS
    go_wp2
    go_ret2
    exact .inr ⟨rfl, HN.out, HB1.out⟩
  · have t1 : ¬ (64 : Int) < (m : Int) := by omega
    have HQ := Lib.hid (HP.out.2.1 (by rw [HM.out]; omega))
    have HQL : Hid ((segs l).length = m) := by
      unfold Hid
      rw [← HQ.out, List.length_map]
      exact HM.out
    have hm64 : m ≤ 64 := by omega
    clear HP h64 hm65
    go_wp2
    go_loopw [4, 21] (fun ov iv wr => ∃ (k : Nat) (ys : List Int), iv = .int .i64 k ∧ k ≤ m ∧ ys.length = k ∧ Hid (AllV ys) ∧ Hid ((segs l).take k = ys.map Lib.itoa) ∧ Hid (wr.ownsRow w.heap.size 2 1 ov ys.length (ys.map (Value.int .i64))) ∧ Hid (Below w.heap.size w wr) ∧ Hid (wr.heap[G]? = w1.heap[G]?) ∧ G < wr.heap.size) (fun _ iv _ => m - (intOf iv).toNat)
    case atStart => exact ⟨0, [], rfl, Nat.zero_le _, rfl, fun x hx => by simp at hx, by unfold Hid; simp, HW1, HB1, rfl, hbl⟩
    case round =>
      obtain ⟨k, ys, rfl, hk, rfl, HV, HY, HW, HB, HG, hGr⟩ := hrel
      clear HW1 HB1 hbl
      by_cases hlt : ys.length < m
      · have k3 : (ys.length : Int) < (m : Int) := by omega
        obtain ⟨p, hp⟩ : ∃ p, ps[ys.length]? = some p := ⟨_, List.getElem?_eq_getElem (by rw [HM.out]; exact hlt)⟩
        have hc : wr.cell? ⟨G, ys.length, none⟩ = some (.string p) := (World.cell?_of_block (a := ⟨G, ys.length, none⟩) HG.out).trans (HK.out _ p hp)
        have hps : p.size ≤ 1048576 := by have := part_le HQ.out hp; have := HLL.out; omega
        have HC := Lib.hid (parts_cut HQ.out hp HY.out)
        obtain ⟨n, ok, hr⟩ := part_any p
        have HR := Lib.hid hr
        have HP : Hid (∀ W, Below w.heap.size w W → Calls Tryd.prog 15 #[.string p] W fun e w' => e = .returned (.tuple #[.int .i64 n, .bool ok]) ∧ Below W.heap.size W w') := fun W hW => part_impl hr hps HT.out hW
        clear hr hps hp
        cases ok with
        | false =>
          have HN := Lib.hid (none_part HR.out HC.out)
          clear HC HR
          go_wp2_with (go_at_call 15; with_reducible refine (HP.out _ HB.out).mono ?_; rintro e w2 ⟨rfl, hb⟩)
          have HB2 := Lib.hid (HB.out.trans (hb.mono HB.out.size))
          clear hb HB HW HG
          go_ret2
          exact .inr ⟨rfl, HN.out, HB2.out⟩
        | true =>
          obtain ⟨b, cb, rfl⟩ := own_anyL HW.out
          obtain ⟨hv, hnx⟩ := nums_next HR.out HC.out
          have HV2 := Lib.hid (HV.out.next hv)
          have HY2 : Hid ((segs l).take (ys.length + 1) = (ys ++ [n]).map Lib.itoa) := parts_next hnx (by rw [HQL.out]; exact hlt)
          have HLEN : Hid ((ys ++ [n]).length = ys.length + 1) := by unfold Hid; simp
          have HMAP : Hid ((ys ++ [n]).map (Value.int .i64) = ys.map (Value.int .i64) ++ [Value.int .i64 n]) := by unfold Hid; simp
          clear HC HR hv hnx
          go_wp2_with (first | (go_at_call 15; with_reducible refine (HP.out _ HB.out).mono ?_; rintro e w2 ⟨rfl, hb⟩; have hown := own_belowO HW.out hb; have HB2 := Lib.hid (HB.out.trans (hb.mono HB.out.size)); have hz := HB2.out.size; have HG2 := Lib.hid ((hb.block G hGr).trans HG.out); have hGr2 := Nat.lt_of_lt_of_le hGr hb.size; clear hb HB HW HG hc) | (at_builtin; refine wpList_append_own _ rfl _ _ 27 rfl w.heap.size 2 i0 (.int .i64 0) 1 8 Tryd.underlying27 hi hz0 hz1 hz2 rfl (by decide) _ _ _ rfl (hown.alloc _) ⟨w2.heap.size, 0, none⟩ 1 1 [.int .i64 n] rfl rfl (cell_one_new _ _ _) (by intro u hu; simp at hu; subst hu; rfl) (by unfold maxLen; omega) (by omega) (by simp; omega) ?_; intro v1 w4 hown1 hgrow hiff; clear hiff))
          have HB4 : Hid (Below w.heap.size w w4) := (HB2.out.alloc hz _).grown hgrow (by simp; omega) (own_block hown)
          have HW4 : Hid (w4.ownsRow w.heap.size 2 1 v1 (ys ++ [n]).length ((ys ++ [n]).map (Value.int .i64))) := by
            unfold Hid
            rw [HLEN.out, HMAP.out]
            simpa using hown1
          have hsz : w2.heap.size < (w2.alloc (.cells #[.int .i64 n] 2)).heap.size := by simp [go_sem]
          have HG4 : Hid (w4.heap[G]? = w1.heap[G]?) := by
            have h1 := hgrow.block G (by omega) (fun e => own_not hown (HG2.out.trans HS.out) e.symm)
            exact h1.trans (((Below.refl _ w2).alloc (Nat.le_refl _) _).block G hGr2 |>.trans HG2.out)
          have hGr4 : G < w4.heap.size := by have := hgrow.size; omega
          have hy2 : (ys ++ [n]).length = ys.length + 1 := HLEN.out
          clear hown1 hgrow hown HB2 HG2 hsz
          go_roundw
          case rel => exact ⟨ys.length + 1, ys ++ [n], by go_num, by omega, hy2, HV2, HY2, HW4, HB4, HG4, hGr4⟩
          case measure => simp [intOf]; omega
      · obtain rfl : ys.length = m := by omega
        obtain ⟨b, cb, rfl⟩ := own_anyL HW.out
        have HF : Hid (NumsOf l ys) := ⟨by omega, HV.out, by rw [← HY.out, List.take_of_length_le (by rw [HQL.out]; exact Nat.le_refl _)]⟩
        have HL := Lib.hid (SL.of_own HW.out)
        clear HW HY
        go_wp2
        go_ret2
        exact .inl ⟨_, ys, rfl, HF.out, HL.out, HB.out⟩
end Go.Proofs.YtpnifnpbolieoabDoor
