/- The text of a list: impl.ListText, spec.l01Text, spec.ListText, and the law FnExactListText. -/
import Derived.Test.YtpnifnpbolieoabDoorListOk
import Derived.Test.YtpnifnpbolieoabDoorListMath
import Derived.Laws.Concat
namespace Go.Proofs.YtpnifnpbolieoabDoor
open Go.RowKit Go.PlainAid
set_option maxHeartbeats 1600000

theorem Pow10.go {w W : World} (ht : Pow10 w.heap.size w) (hB : Below w.heap.size w W) : Pow10 W.heap.size W := fun w2 h2 => ht w2 (hB.trans (h2.mono hB.size))
theorem dec_callP (n : Int) {w W : World} (hn : I64 n) (ht : Pow10 w.heap.size w) (hB : Below w.heap.size w W) :
    Calls Tryd.prog 13 #[.int .i64 n] W fun e w' => e = .returned (.string (decS n)) ∧ Below W.heap.size W w' :=
  implDec_any n W hn.1 hn.2 (ht.go hB)
/-- the text of the first k numbers -/
def txt (xs : List Int) (k : Nat) : ByteArray := if k = 0 then ⟨#[]⟩ else ⟨(textOf (xs.take k)).toArray⟩
theorem txt_zero (xs : List Int) : txt xs 0 = ⟨#[]⟩ := rfl
theorem txt_first {xs : List Int} {x : Int} (hx : xs[0]? = some x) : txt xs 1 = decS x := by
  unfold txt decS
  rw [if_neg (by decide), List.take_add_one, hx, List.take_zero]
  show (⟨(textOf [x]).toArray⟩ : ByteArray) = _
  rw [textOf_one]
theorem txt_next {xs : List Int} {x : Int} {k : Nat} (hx : xs[k]? = some x) (hk : 0 < k) : txt xs (k + 1) = txt xs k ++ (⟨#[44]⟩ : ByteArray) ++ decS x := by
  unfold txt decS
  rw [if_neg (by omega), if_neg (by omega), List.take_add_one, hx]
  have hne : xs.take k ≠ [] := by
    intro e
    have h1 := congrArg List.length e
    have := (List.getElem?_eq_some_iff.1 hx).1
    rw [List.length_take, List.length_nil] at h1
    omega
  show (⟨(textOf (xs.take k ++ [x])).toArray⟩ : ByteArray) = _
  rw [textOf_next _ _ hne, show (⟨#[44]⟩ : ByteArray) = ⟨[44].toArray⟩ from rfl, ByteArray.mk_append_mk, ByteArray.mk_append_mk]
theorem mk_size (l : List UInt8) : (⟨l.toArray⟩ : ByteArray).size = l.length := by simp [ByteArray.size]
theorem decV_size {n : Int} (h : Val n) : (decS n).size ≤ 20 := by
  have := itoa_len n h.i64.1 h.i64.2
  unfold decS
  rw [mk_size]
  exact this
theorem txt_size {xs : List Int} : ∀ k, k ≤ xs.length → InV xs xs.length → (txt xs k).size ≤ 21 * k
  | 0, _, _ => by rw [txt_zero]; exact Nat.le_refl _
  | 1, h, hv => by
    obtain ⟨x, hx⟩ : ∃ x, xs[0]? = some x := ⟨_, List.getElem?_eq_getElem (by omega)⟩
    rw [txt_first hx]
    have := decV_size (hv 0 x (by omega) hx)
    omega
  | k + 2, h, hv => by
    obtain ⟨x, hx⟩ : ∃ x, xs[k + 1]? = some x := ⟨_, List.getElem?_eq_getElem (by omega)⟩
    have ih := txt_size (k + 1) (by omega) hv
    rw [txt_next hx (by omega), ByteArray.size_append, ByteArray.size_append]
    have := decV_size (hv (k + 1) x (by omega) hx)
    have h1 : (⟨#[44]⟩ : ByteArray).size = 1 := rfl
    omega
theorem txt_pos {xs : List Int} {k : Nat} (hk : 0 < k) (h : k ≤ xs.length) : 0 < (txt xs k).size := by
  unfold txt
  rw [if_neg (by omega), mk_size]
  have hne : xs.take k ≠ [] := by
    intro e
    have h1 := congrArg List.length e
    rw [List.length_take, List.length_nil] at h1
    omega
  have := textOf_pos _ hne
  omega
/-- the text of a list, or none -/
def listT (xs : List Int) : ByteArray := if xs.length = 0 then ⟨#[110, 111, 110, 101]⟩ else txt xs xs.length

theorem toList_pos {s : ByteArray} (h : 0 < s.size) : ¬ s.toList = [] := by
  intro x
  rw [ByteArray.toList_eq] at x
  have : s.data.size = 0 := by rw [← Array.length_toList, x]; rfl
  have h2 : s.data.size = s.size := rfl
  omega
theorem l01Text_any (a : Option Addr) (n cap : Nat) (xs : List Int) (w : World) (h : RO w.heap.size w a xs) (hn : xs.length = n) (hO : ListP xs) :
    Calls Tryd.prog 53 #[.slice a n cap] w fun e w' => e = .returned (.string (listT xs)) ∧ Below w.heap.size w w' := by
  have HR := Lib.hid h
  have hlen := Lib.hid hn
  have HO := Lib.hid hO
  have hn2 : n ≤ 64 := by have := hO.1; omega
  clear h hn hO
  go_enter Tryd.func53, Tryd.ntmps53
  go_wp2
  go_loopw [3, 4] (fun tv iv wr => ∃ k : Nat, k ≤ n ∧ iv = .int .i64 k ∧ tv = .string (txt xs k) ∧ Hid (Below w.heap.size w wr)) (fun _ iv _ => n - (intOf iv).toNat)
  case atStart => exact ⟨0, Nat.zero_le _, rfl, rfl, Below.refl _ _⟩
  case round =>
    obtain ⟨k, hk, rfl, rfl, HB⟩ := hrel
    by_cases hlt : k < n
    · obtain ⟨x, hx⟩ : ∃ x, xs[k]? = some x := ⟨_, List.getElem?_eq_getElem (by have := hlen.out; omega)⟩
      obtain ⟨g, off, rfl, hg, hc0⟩ := HR.out k x hx
      have hc := (HB.out.cell (p := ⟨g, off + k, none⟩) hg).trans hc0
      have hv := HO.out.get hx
      have HD : Hid (∀ W, Calls Tryd.prog 47 #[.int .i64 x] W fun e w' => e = .returned (.string (decS x)) ∧ Below W.heap.size W w') := fun W => l01Dec_any x W hv.i64.1 hv.i64.2
      have hdl := decV_size hv
      have htl := txt_size k (by have := hlen.out; omega) HO.out.2
      have l44 : (⟨#[44]⟩ : ByteArray).size = 1 := rfl
      by_cases hk0 : k = 0
      · subst hk0
        have HT : Hid (decS x = txt xs (0 + 1)) := (txt_first hx).symm
        have hz0 : (⟨#[]⟩ : ByteArray) ++ decS x = decS x := by
          apply ByteArray.ext
          simp [ByteArray.data_append]
        have e1 : ∀ W : World, (Op.stringOp .add (⟨#[]⟩ : ByteArray) (decS x)).run Tryd.prog W = .ok (.string (decS x)) W := fun W => by
          rw [run_string_add_sum W _ _ (by have : (⟨#[]⟩ : ByteArray).size = 0 := rfl
                                           omega), hz0]
        clear hz0
        obtain ⟨td, htd⟩ : ∃ t, decS x = t := ⟨_, rfl⟩
        rw [htd] at HD HT hdl e1
        have tz : txt xs 0 = (⟨#[]⟩ : ByteArray) := rfl
        clear hx hv hc0 htd htl
        rw [Nat.add_zero] at hc
        simp only [tz]
        go_wp2_with (go_at_call 47; with_reducible refine (HD.out _).mono ?_; rintro e w1 ⟨rfl, hb⟩)
        have HB2 := Lib.hid (HB.out.trans (hb.mono HB.out.size))
        clear hb HB
        go_roundw
        case rel => exact ⟨0 + 1, by omega, by go_num, by rw [HT.out], HB2⟩
        case measure => simp [intOf]; omega
      · have HT := Lib.hid (txt_next hx (by omega))
        have t1 : (0 : Int) < (k : Int) := by omega
        have t2 : 0 < k := by omega
        obtain ⟨td, htd⟩ : ∃ t, decS x = t := ⟨_, rfl⟩
        obtain ⟨tk, htk⟩ : ∃ t, txt xs k = t := ⟨_, rfl⟩
        rw [htd] at HD HT hdl
        rw [htk] at HT htl ⊢
        obtain ⟨tc, htc⟩ : ∃ t, tk ++ (⟨#[44]⟩ : ByteArray) = t := ⟨_, rfl⟩
        have htcl : tc.size ≤ 21 * k + 1 := by rw [← htc, ByteArray.size_append, l44]; omega
        have e1 : ∀ W : World, (Op.stringOp .add tk (⟨#[44]⟩ : ByteArray)).run Tryd.prog W = .ok (.string tc) W := fun W => by rw [← htc]; exact run_string_add_sum W _ _ (by omega)
        obtain ⟨tn, htn⟩ : ∃ t, tc ++ td = t := ⟨_, rfl⟩
        have e2 : ∀ W : World, (Op.stringOp .add tc td).run Tryd.prog W = .ok (.string tn) W := fun W => by rw [← htn]; exact run_string_add_sum W _ _ (by omega)
        rw [htc, htn] at HT
        clear hx hv hc0 htd htk htc htn hk0 htl htcl l44
        go_wp2_with (go_at_call 47; with_reducible refine (HD.out _).mono ?_; rintro e w1 ⟨rfl, hb⟩)
        have HB2 := Lib.hid (HB.out.trans (hb.mono HB.out.size))
        clear hb HB
        go_roundw
        case rel => exact ⟨k + 1, by omega, by go_num, by rw [HT.out], HB2⟩
        case measure => simp [intOf]; omega
    · obtain rfl : k = n := by omega
      by_cases hk0 : k = 0
      · subst hk0
        have HL : Hid (listT xs = ⟨#[110, 111, 110, 101]⟩) := if_pos hlen.out
        have tz : txt xs 0 = (⟨#[]⟩ : ByteArray) := rfl
        simp only [tz]
        go_wp2
        go_ret
        exact ⟨by rw [HL.out]; rfl, HB.out⟩
      · have HL : Hid (listT xs = txt xs k) := by unfold Hid listT; rw [hlen.out, if_neg hk0]
        have hne : (txt xs k).toList.isEmpty = false := by
          have := toList_pos (txt_pos (xs := xs) (k := k) (by omega) (by rw [hlen.out]; exact Nat.le_refl _))
          simpa using this
        obtain ⟨tk, htk⟩ : ∃ t, txt xs k = t := ⟨_, rfl⟩
        rw [htk] at HL hne ⊢
        clear hk0 htk
        go_wp2
        go_ret
        exact ⟨by rw [HL.out]; rfl, HB.out⟩
theorem specLText_yes (a : Option Addr) (n cap : Nat) (xs : List Int) (w : World) (h : RO w.heap.size w a xs) (hn : xs.length = n) (hO : ListP xs) :
    Calls Tryd.prog 16 #[.slice a n cap] w fun e w' => e = .returned (.tuple #[.string (listT xs), .bool true]) ∧ Below w.heap.size w w' := by
  have HA : Hid (Calls Tryd.prog 52 #[.slice a n cap] w fun e w' => e = .returned (.bool true) ∧ w = w') := l01List_yes a n cap xs w h hn hO
  have HT : Hid (Calls Tryd.prog 53 #[.slice a n cap] w fun e w' => e = .returned (.string (listT xs)) ∧ Below w.heap.size w w') := l01Text_any a n cap xs w h hn hO
  clear h hn hO
  go_enter Tryd.func16, Tryd.ntmps16
  go_wp2_with (first | (go_at_call 52; with_reducible refine (HA.out).mono ?_; rintro e w1 ⟨rfl, rfl⟩) | (go_at_call 53; with_reducible refine (HT.out).mono ?_; rintro e w2 ⟨rfl, hb⟩))
  go_ret2
  exact ⟨rfl, hb⟩
theorem specLText_no (a : Option Addr) (n cap : Nat) (xs : List Int) (w : World) (h : RO w.heap.size w a xs) (hn : xs.length = n) (hl : n ≤ 1048576) (hO : ¬ ListP xs) :
    Calls Tryd.prog 16 #[.slice a n cap] w fun e w' => e = .returned (.tuple #[.string ⟨#[]⟩, .bool false]) ∧ Below w.heap.size w w' := by
  have HA : Hid (Calls Tryd.prog 52 #[.slice a n cap] w fun e w' => e = .returned (.bool false) ∧ w = w') := l01List_no a n cap xs w h hn hl hO
  clear h hn hO
  go_enter Tryd.func16, Tryd.ntmps16
  go_wp2_with (go_at_call 52; with_reducible refine (HA.out).mono ?_; rintro e w1 ⟨rfl, rfl⟩)
  go_ret2
  exact ⟨rfl, Below.refl _ _⟩

theorem Tryd.info9 : (Tryd.prog.info? 9).map (fun i => (i.zero, i.size, i.bytes)) = some (some (.string ⟨#[]⟩), 1, 16) := by kernel_rfl
/-- what has been written so far, and empty texts behind it -/
def padS (l : List ByteArray) (n : Nat) : List Value := l.map Value.string ++ List.replicate (n - l.length) (Value.string ⟨#[]⟩)
theorem padS_made (n : Nat) : (madeCells (Value.string ⟨#[]⟩).cells (n * 1)).toList = padS [] n := by
  have : (Value.string ⟨#[]⟩).cells = #[.string ⟨#[]⟩] := rfl
  rw [this, toList_madeCells_one]
  simp [padS]
theorem padS_set (l : List ByteArray) (n : Nat) (x : ByteArray) (h : l.length < n) : (padS l n).set l.length (.string x) = padS (l ++ [x]) n := by
  unfold padS
  obtain ⟨m, hm⟩ : ∃ m, n - l.length = m + 1 := ⟨n - l.length - 1, by omega⟩
  have hm2 : n - (l ++ [x]).length = m := by simp; omega
  rw [hm, hm2, List.map_append, List.set_append_right _ _ (by simp)]
  simp [List.replicate_succ]
theorem padS_get (l : List ByteArray) (n : Nat) (h : l.length < n) : (padS l n)[l.length]? = some (.string ⟨#[]⟩) := by
  unfold padS
  obtain ⟨m, hm⟩ : ∃ m, n - l.length = m + 1 := ⟨n - l.length - 1, by omega⟩
  rw [hm, List.getElem?_append_right (by simp)]
  simp [List.replicate_succ]
/-- the texts of the first k numbers -/
def decL (xs : List Int) (k : Nat) : List ByteArray := (xs.take k).map decS
theorem decL_length {xs : List Int} {k : Nat} (h : k ≤ xs.length) : (decL xs k).length = k := by simp [decL]; omega
theorem decL_succ {xs : List Int} {k : Nat} {x : Int} (hx : xs[k]? = some x) : decL xs (k + 1) = decL xs k ++ [decS x] := by
  unfold decL
  rw [List.take_add_one, hx]
  simp
theorem own_stepS {w : World} {base : Nat} {e : TypeId} {g n cap j : Nat} {l : List ByteArray} (h : w.ownsRow base e 1 (.slice (some ⟨g, 0, none⟩) n cap) n (padS l n)) (hl : l.length = j) (hj : j < n) (x : ByteArray) :
    (w.setCell ⟨g, j, none⟩ (.string x)).ownsRow base e 1 (.slice (some ⟨g, 0, none⟩) n cap) n (padS (l ++ [x]) n) := by
  subst hl
  rw [← padS_set l n x hj]
  exact (h.stored l.length (.string x)).1
theorem own_nextS {w : World} {base : Nat} {e : TypeId} {g n cap j : Nat} {l : List ByteArray} (h : w.ownsRow base e 1 (.slice (some ⟨g, 0, none⟩) n cap) n (padS l n)) (hl : l.length = j) (hj : j < n) :
    w.cell? ⟨g, j, none⟩ = some (.string ⟨#[]⟩) ∧ w.frozen? ⟨g, j, none⟩ = false := by
  subst hl
  refine ⟨?_, h.frozenAt _⟩
  rw [h.cellAt l.length (by omega)]
  exact padS_get l n hj
theorem decL_all {xs : List Int} {n : Nat} (hn : xs.length = n) : (decL xs n).map (·.data.toList) = xs.map Lib.itoa := by
  unfold decL
  rw [List.take_of_length_le (by omega), List.map_map]
  rfl

set_option maxRecDepth 8000 in
theorem implLText_yes (a : Option Addr) (n cap : Nat) (xs : List Int) (w : World) (h : RO w.heap.size w a xs) (hn : xs.length = n) (hO : ListP xs) (ht : Pow10 w.heap.size w) :
    Calls Tryd.prog 18 #[.slice a n cap] w fun e w' => e = .returned (.tuple #[.string (listT xs), .bool true]) ∧ Below w.heap.size w w' := by
  obtain ⟨i0, hi, hz0, hz1, hz2⟩ := info_parts Tryd.info9
  have HA : Hid (Calls Tryd.prog 54 #[.slice a n cap] w fun e w' => e = .returned (.bool true) ∧ w = w') := isList_yes a n cap xs w h hn hO
  have HR := Lib.hid h
  have hlen := Lib.hid hn
  have HO := Lib.hid hO
  have HT := Lib.hid ht
  have hn2 : n ≤ 64 := by have := hO.1; omega
  clear h hn hO ht
  by_cases h0 : n = 0
  · subst h0
    have HL : Hid (listT xs = ⟨#[110, 111, 110, 101]⟩) := if_pos hlen.out
    go_enter Tryd.func18, Tryd.ntmps18
    go_wp2_with (go_at_call 54; with_reducible refine (HA.out).mono ?_; rintro e w1 ⟨rfl, rfl⟩)
    go_ret2
    exact ⟨by rw [HL.out]; rfl, Below.refl _ _⟩
  · have q0 : ((n : Int) == 0) = false := by rw [beq_eq_false_iff_ne]; omega
    have hpos : 0 < n := by omega
    clear h0
    go_enter Tryd.func18, Tryd.ntmps18
    go_wp2_with (first | (go_at_call 54; with_reducible refine (HA.out).mono ?_; rintro e w1 ⟨rfl, rfl⟩) | (at_make; refine wpList_make_full _ rfl _ _ 65 rfl w.heap.size 9 i0 _ 1 Tryd.underlying65 hi hz0 hz1 _ _ _ _ n rfl rfl rfl rfl (by rw [hz2]; omega) (by unfold maxLen; omega) (Nat.le_refl _) ?_; intro w3 hown hgrow))
    have hown3 : Hid (w3.ownsRow w.heap.size 9 1 (.slice (some ⟨w.heap.size, 0, none⟩) n n) n (padS (decL xs 0) n)) := by rw [padS_made] at hown; exact hown
    have B3 : Hid (Below w.heap.size w w3) := (Below.refl w.heap.size w).grown hgrow (Nat.le_refl _) (by simp)
    clear hown hgrow HA
    go_loopw [5, 6, 18] (fun _ _ iv wr => ∃ k : Nat, k ≤ n ∧ iv = .int .i64 k ∧ Hid (wr.ownsRow w.heap.size 9 1 (.slice (some ⟨w.heap.size, 0, none⟩) n n) n (padS (decL xs k) n)) ∧ Hid (Below w.heap.size w wr)) (fun _ _ iv _ => n - (intOf iv).toNat)
    case atStart => exact ⟨0, Nat.zero_le _, rfl, hown3, B3⟩
    case round =>
      obtain ⟨k, hk, rfl, HW, HB⟩ := hrel
      clear hown3 B3
      by_cases hlt : k < n
      · obtain ⟨x, hx⟩ : ∃ x, xs[k]? = some x := ⟨_, List.getElem?_eq_getElem (by have := hlen.out; omega)⟩
        obtain ⟨g, off, rfl, hg, hc0⟩ := HR.out k x hx
        have hc := (HB.out.cell (p := ⟨g, off + k, none⟩) hg).trans hc0
        have hv := HO.out.get hx
        have HD : Hid (Calls Tryd.prog 13 #[.int .i64 x] wr fun e w' => e = .returned (.string (decS x)) ∧ Below wr.heap.size wr w') := dec_callP x hv.i64 HT.out HB.out
        have HS := Lib.hid (decL_succ hx)
        have hll : (decL xs k).length = k := decL_length (by have := hlen.out; omega)
        obtain ⟨td, htd⟩ : ∃ t, decS x = t := ⟨_, rfl⟩
        rw [htd] at HD HS
        clear hx hc0 hv htd
        go_wp2_with fail
        refine (HD.out).mono ?_
        rintro e w4 ⟨rfl, hb4⟩
        have hown := own_belowO HW.out hb4
        have HB4 := Lib.hid (HB.out.trans (hb4.mono HB.out.size))
        clear HW HB hb4 HD
        obtain ⟨hd, hf⟩ := own_nextS hown hll hlt
        have HW5 := Lib.hid (own_stepS hown hll hlt td)
        have HB5 : Hid (Below w.heap.size w (w4.setCell ⟨w.heap.size, k, none⟩ (.string td))) := HB4.out.setCell (p := ⟨w.heap.size, k, none⟩) (Nat.le_refl _) _
        clear hown hll HB4
        go_wp2
        go_roundw
        case rel => exact ⟨k + 1, by omega, by go_num, by unfold Hid; rw [HS.out]; exact HW5.out, HB5⟩
        case measure => simp [intOf]; omega
      · obtain rfl : k = n := by omega
        have hll : (decL xs k).length = k := decL_length (by have := hlen.out; omega)
        have hown := HW.out
        have hcells : ∀ (j : Nat) x, (decL xs k)[j]? = some x → wr.cell? ⟨w.heap.size, 0 + j, none⟩ = some (.string x) := by
          intro j x hx
          have hj := (List.getElem?_eq_some_iff.1 hx).1
          rw [Nat.zero_add, hown.cellAt j (by omega)]
          unfold padS
          rw [List.getElem?_append_left (by simpa using hj), List.getElem?_map, hx]
          rfl
        have hbk : w.heap.size < wr.heap.size := by
          obtain ⟨x, hx⟩ : ∃ x, (decL xs k)[0]? = some x := ⟨_, List.getElem?_eq_getElem (by omega)⟩
          exact World.block_lt_of_cell? wr _ (hcells 0 x hx)
        have htl := txt_size (xs := xs) k (by have := hlen.out; omega) HO.out.2
        have hLT : (⟨(textOf xs).toArray⟩ : ByteArray) = txt xs k := by
          unfold txt
          rw [if_neg (by omega), List.take_of_length_le (by have := hlen.out; omega)]
        have HL : Hid (listT xs = txt xs k) := by unfold Hid listT; rw [hlen.out, if_neg (by omega)]
        have HJ : Hid (Calls Tryd.prog 55 #[.slice (some ⟨w.heap.size, 0, none⟩) k k, .string ⟨#[44]⟩] wr fun e w' => e = .returned (.string (txt xs k)) ∧ Below wr.heap.size wr w') := by
          have h := Tryd.strings_Join w.heap.size 0 k (decL xs k) ⟨#[44]⟩ wr hcells hbk (by omega) (by omega) (by
            rw [decL_all hlen.out]
            show (textOf xs).length ≤ _
            have h1 : (⟨(textOf xs).toArray⟩ : ByteArray).size ≤ 21 * k := by rw [hLT]; exact htl
            rw [mk_size] at h1
            omega)
          rw [hll, decL_all hlen.out] at h
          rw [← hLT]
          exact h
        clear HW hown hcells hbk htl hLT
        go_wp2_with (go_at_call 55; with_reducible refine (HJ.out).mono ?_; rintro e w4 ⟨rfl, hb4⟩)
        have HB4 := Lib.hid (HB.out.trans (hb4.mono HB.out.size))
        clear hb4 HB HJ
        go_ret2
        exact ⟨by rw [HL.out]; rfl, HB4.out⟩
theorem implLText_no (a : Option Addr) (n cap : Nat) (xs : List Int) (w : World) (h : RO w.heap.size w a xs) (hn : xs.length = n) (hl : n ≤ 1048576) (hO : ¬ ListP xs) :
    Calls Tryd.prog 18 #[.slice a n cap] w fun e w' => e = .returned (.tuple #[.string ⟨#[]⟩, .bool false]) ∧ Below w.heap.size w w' := by
  have HA : Hid (Calls Tryd.prog 54 #[.slice a n cap] w fun e w' => e = .returned (.bool false) ∧ w = w') := isList_no a n cap xs w h hn hl hO
  clear h hn hO
  go_enter Tryd.func18, Tryd.ntmps18
  go_wp2_with (go_at_call 54; with_reducible refine (HA.out).mono ?_; rintro e w1 ⟨rfl, rfl⟩)
  go_ret2
  exact ⟨rfl, Below.refl _ _⟩
theorem lawLText_core (a : Option Addr) (n cap : Nat) (xs : List Int) (t : ByteArray) (ok : Bool) (w : World) (h : RO w.heap.size w a xs) (hn : xs.length = n) (hl : n ≤ 1048576)
    (HS : Hid (∀ (W : World) b c, RO W.heap.size W b xs → Calls Tryd.prog 16 #[.slice b n c] W fun e w' => e = .returned (.tuple #[.string t, .bool ok]) ∧ Below W.heap.size W w'))
    (HI : Hid (∀ (W : World) b c, Below w.heap.size w W → RO W.heap.size W b xs → Calls Tryd.prog 18 #[.slice b n c] W fun e w' => e = .returned (.tuple #[.string t, .bool ok]) ∧ Below W.heap.size W w')) :
    Calls Tryd.prog 5 #[.slice a n cap] w fun e w' => e = .returned (.bool true) ∧ Below w.heap.size w w' := by
  have HR := Lib.hid h
  have HN := Lib.hid hn
  have t0 : decide ((1048576 : Int) < (n : Int)) = false := by simp; omega
  have hne : (t.toList == t.toList) = true := by simp
  have hne2 : (ok != ok) = false := by simp
  clear h hn
  go_enter Tryd.func5, Tryd.ntmps5
  go_wp2_with fail
  refine (copy_any a n cap xs w HR.out HN.out hl).mono ?_
  rintro e w1 ⟨b1, c1, rfl, r1, _, hb1⟩
  go_wp2_with fail
  refine (HS.out w1 b1 c1 r1).mono ?_
  rintro e w2 ⟨rfl, hb2⟩
  have hB2 : Below w.heap.size w w2 := hb1.trans (hb2.mono hb1.size)
  clear r1 hb1 hb2
  have HR2 := Lib.hid ((HR.out.below hB2).up hB2.size)
  go_wp2_with fail
  refine (copy_any a n cap xs w2 HR2.out HN.out hl).mono ?_
  rintro e w3 ⟨b3, c3, rfl, r3, s3, hb3⟩
  go_wp2_with fail
  refine (HI.out w3 b3 c3 (hB2.trans (hb3.mono hB2.size)) r3).mono ?_
  rintro e w4 ⟨rfl, hb4⟩
  have hB4 : Below w.heap.size w w4 := (hB2.trans (hb3.mono hB2.size)).trans (hb4.mono (Nat.le_trans hB2.size hb3.size))
  have HS4 := Lib.hid (s3.below hb4)
  have z3 := hb3.size
  have z4 := hb4.size
  clear r3 s3 hb3 hb4 HR2 hB2
  have HR4 := Lib.hid ((HR.out.below hB4).up hB4.size)
  go_wp2_with fail
  refine (copy_any a n cap xs w4 HR4.out HN.out hl).mono ?_
  rintro e w5 ⟨b5, c5, rfl, _, s5, hb5⟩
  have HB5 := Lib.hid (hB4.trans (hb5.mono hB4.size))
  have HS5 := Lib.hid (HS4.out.below (hb5.mono z4))
  have HE : Hid (Calls Tryd.prog 19 #[.slice b3 n c3, .slice b5 n c5] w5 fun e w' => e = .returned (.bool true) ∧ ∃ n, w' = w5.drewN n) := eq64_yes _ _ xs _ _ _ _ w5 HS5.out s5 (by rw [HN.out]; exact hl)
  clear hB4 hb5 s5 HS4 HS5 HR4
  go_wp2_with (go_at_call 19; with_reducible refine (HE.out).mono ?_; rintro e w6 ⟨rfl, m6, rfl⟩)
  go_ret
  exact ⟨rfl, below_drewN HB5.out m6⟩
theorem lawLText (a : Option Addr) (n cap : Nat) (zs : List Int) (w : World) (h : RowIn .i64 w a n zs) (ht : Pow10 w.heap.size w) :
    Calls Tryd.prog 5 #[.slice a n cap] w fun e w' => e = .returned (.bool true) ∧ Below w.heap.size w w' := by
  by_cases hl : n ≤ 1048576
  · obtain ⟨xs, hn, hr⟩ := h.ro
    by_cases hO : ListP xs
    · exact lawLText_core a n cap xs (listT xs) true w hr hn hl (fun W b d hb => specLText_yes b n d xs W hb hn hO) (fun W b d hW hb => implLText_yes b n d xs W hb hn hO (ht.go hW))
    · exact lawLText_core a n cap xs ⟨#[]⟩ false w hr hn hl (fun W b d hb => specLText_no b n d xs W hb hn hl hO) (fun W b d _ hb => implLText_no b n d xs W hb hn hl hO)
  · have hle := h.len_le
    have t0 : decide ((1048576 : Int) < (n : Int)) = true := by simp; omega
    clear h ht
    go_enter Tryd.func5, Tryd.ntmps5
    go_wp2
    go_ret
    exact ⟨rfl, Below.refl _ _⟩
end Go.Proofs.YtpnifnpbolieoabDoor
