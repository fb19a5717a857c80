/- Fractions read: impl.ReadFraction, spec.l01FRead, and the law FnExactReadFraction. -/
import Derived.Test.YtpnifnpbolieoabDoorFracText
import Derived.Test.YtpnifnpbolieoabDoorLawRead
import Derived.Lib.Split
import Derived.Lib.IndexMore
namespace Go.Proofs.YtpnifnpbolieoabDoor
open Go.RowKit Go.PlainAid
set_option maxHeartbeats 3200000

def NoSl (l : List UInt8) : Prop := ∀ b ∈ l, b ≠ 47
theorem index_slash (l : List UInt8) : (Lib.index l [47] = -1 ∧ NoSl l) ∨ ∃ i : Nat, Lib.index l [47] = i ∧ i < l.length ∧ NoSl (l.take i) ∧ l[i]? = some 47 := by
  have key : ∀ (m : List UInt8) (j : Nat), Lib.occAt m [47] j = true ↔ m[j]? = some 47 := by
    intro m
    induction m with
    | nil => intro j; simp [Lib.occAt]
    | cons c r ih =>
      intro j
      cases j with
      | zero => simp [Lib.occAt]; exact eq_comm
      | succ j => simpa [Lib.occAt] using ih j
  rcases Lib.index_spec l [47] with ⟨h1, h2⟩ | ⟨i, h1, h2, h3, h4⟩
  · refine .inl ⟨h1, fun b hb e => ?_⟩
    subst e
    obtain ⟨j, hj, hj2⟩ := List.mem_iff_getElem.1 hb
    have := (key l j).2 (by rw [List.getElem?_eq_getElem hj, hj2])
    rw [h2 j (by omega)] at this
    exact Bool.noConfusion this
  · have h5 := (key l i).1 h3
    obtain ⟨h6, h7⟩ := List.getElem?_eq_some_iff.1 h5
    refine .inr ⟨i, h1, h6, fun b hb e => ?_, h5⟩
    subst e
    obtain ⟨j, hj, hj2⟩ := List.mem_iff_getElem.1 hb
    rw [List.length_take] at hj
    rw [List.getElem_take] at hj2
    have := (key l j).2 (by rw [List.getElem?_eq_getElem (by omega), hj2])
    rw [h4 j (by omega)] at this
    exact Bool.noConfusion this
theorem decS_one : decS 1 = (⟨#[49]⟩ : ByteArray) := by
  unfold decS Lib.itoa
  rw [if_neg (by omega), Lib.decDigits, dif_pos (by decide)]
  rfl
theorem ba_ext {a b : ByteArray} (h : a.data.toList = b.data.toList) : a = b := ByteArray.ext (Array.toList_inj.1 h)
/-- what the library's cut gives at the place i of a slash -/
theorem cut_at (s : ByteArray) (i : Nat) (h : Lib.index s.data.toList [47] = i) : Lib.cut s.data.toList [47] = ((s.extract 0 i).data.toList, (s.extract (i + 1) s.size).data.toList, true) := by
  unfold Lib.cut
  have hz : s.data.toList.length = s.size := Array.length_toList
  rw [if_pos (by omega), h, extract_list, extract_list, List.take_of_length_le (l := s.data.toList.drop (i + 1)) (by rw [List.length_drop]; omega)]
  simp

/-- what reading whole numbers gives -/
def WholeP (s : ByteArray) (n : Int) (ok : Bool) : Prop := (ok = true ∧ I64 n ∧ s = decS n) ∨ (ok = false ∧ n = 0 ∧ ∀ k, I64 k → s ≠ decS k)
theorem whole_any (s : ByteArray) : ∃ n ok, WholeP s n ok := by
  by_cases h : ∃ n, I64 n ∧ s = decS n
  · obtain ⟨n, h1, h2⟩ := h
    exact ⟨n, true, .inl ⟨rfl, h1, h2⟩⟩
  · exact ⟨0, false, .inr ⟨rfl, rfl, fun k hk e => h ⟨k, hk, e⟩⟩⟩
theorem whole_call {s : ByteArray} {n : Int} {ok : Bool} (h : WholeP s n ok) {w W : World} (hs : s.size ≤ 1048576) (ht : Tabs w) (hB : Below w.heap.size w W) :
    Calls Tryd.prog 50 #[.string s] W fun e w' => e = .returned (.tuple #[.int .i64 n, .bool ok]) ∧ Below W.heap.size W w' := by
  rcases h with ⟨rfl, h1, rfl⟩ | ⟨rfl, rfl, h1⟩
  · exact whole_yes n W h1 (ht.on hB)
  · exact whole_no s W hs (ht.on hB) h1

/-- reading a fraction: the two texts, what they read as, whether a slash was there; and the result -/
def fracR (n d : Int) (ok : Bool) : Value := .tuple #[.agg #[.int .i64 (if ok then n else 0), .int .i64 (if ok then d else 0)], .bool ok]

/-- the library's length limit is some number -/
def MaxL (w : World) : Prop := ∃ m, w.cell? ⟨1, 0, none⟩ = some (.int .i64 m)
theorem MaxL.on {w w1 : World} (h : MaxL w) (hb : Below w.heap.size w w1) : MaxL w1 := by
  obtain ⟨m, h⟩ := h
  exact ⟨m, (hb.cell (p := ⟨1, 0, none⟩) (World.block_lt_of_cell? w _ h)).trans h⟩
theorem maxL_of {w : World} (h : w.ShapedOpen Tryd.prog) : MaxL w := Tryd.laysM145.s1_3 w h
theorem cut_call (s : ByteArray) (W : World) (hs : s.size ≤ 1048576) (hm : MaxL W) :
    Calls Tryd.prog 62 #[.string s, .string ⟨#[47]⟩] W fun e w' => e = .returned (.tuple #[.string ⟨(Lib.cut s.data.toList [47]).1.toArray⟩, .string ⟨(Lib.cut s.data.toList [47]).2.1.toArray⟩, .bool (Lib.cut s.data.toList [47]).2.2]) ∧ Below W.heap.size W w' := by
  obtain ⟨m, hm⟩ := hm
  refine (Any.strings_Cut { Tryd.laysM145 with } s ⟨#[47]⟩ m W (by omega) hm).mono ?_
  rintro e w' ⟨he, n, rfl⟩
  exact ⟨he, below_drewN (Below.refl _ _) n⟩

def C2 (V : World) (b : Nat) (x y : Value) : Prop := (V.cell? ⟨b, 0, none⟩ = some x ∧ V.cell? ⟨b, 1, none⟩ = some y) ∧ V.frozen? ⟨b, 0, none⟩ = false ∧ V.frozen? ⟨b, 1, none⟩ = false
theorem C2.lt {V : World} {b : Nat} {x y : Value} (h : C2 V b x y) : b < V.heap.size := World.block_lt_of_cell? V _ h.1.1
theorem C2.below {V V1 : World} {b n : Nat} {x y : Value} (h : C2 V b x y) (hb : Below n V V1) (hn : b < n) : C2 V1 b x y :=
  ⟨⟨(hb.cell (p := ⟨b, 0, none⟩) hn).trans h.1.1, (hb.cell (p := ⟨b, 1, none⟩) hn).trans h.1.2⟩, (hb.frozen (p := ⟨b, 0, none⟩) hn).trans h.2.1, (hb.frozen (p := ⟨b, 1, none⟩) hn).trans h.2.2⟩
theorem C2.new (w : World) (x y : Value) (t : TypeId) : C2 (w.alloc (.cells #[x, y] t)) w.heap.size x y := ⟨⟨by simp [go_sem], by simp [go_sem]⟩, by simp [go_sem], by simp [go_sem]⟩
theorem C2.alloc {V : World} {b : Nat} {x y : Value} (h : C2 V b x y) (o : Obj) : C2 (V.alloc o) b x y := h.below ((Below.refl _ V).alloc (Nat.le_refl _) o) h.lt
def put2 (V : World) (b : Nat) (x y : Value) : World := (V.setCell ⟨b, 0, none⟩ x).setCell ⟨b, 1, none⟩ y
theorem addr_ne {b c i j : Nat} (h : i ≠ j ∨ b ≠ c) : (⟨b, i, none⟩ : Addr) ≠ ⟨c, j, none⟩ := fun e => by
  have h1 := congrArg Addr.block e
  have h2 := congrArg Addr.off e
  simp at h1 h2
  omega
theorem C2.put {V : World} {b : Nat} {x y : Value} (h : C2 V b x y) (x' y' : Value) : (put2 V b x' y').cell? ⟨b, 0, none⟩ = some x' ∧ (put2 V b x' y').cell? ⟨b, 1, none⟩ = some y' := by
  unfold put2
  have h1 : (V.setCell ⟨b, 0, none⟩ x').cell? ⟨b, 1, none⟩ = some y := (World.cell?_setCell_other V _ _ _ (addr_ne (.inl (by decide)))).trans h.1.2
  exact ⟨(World.cell?_setCell_other _ _ _ _ (addr_ne (.inl (by decide)))).trans (World.cell?_setCell_same V _ _ h.1.1), World.cell?_setCell_same _ _ _ h1⟩
theorem below_put2 {B : Nat} {w V : World} (h : Below B w V) {b : Nat} (hb : B ≤ b) (x y : Value) : Below B w (put2 V b x y) := (h.setCell (p := ⟨b, 0, none⟩) hb _).setCell (p := ⟨b, 1, none⟩) hb _

set_option maxRecDepth 8000 in
theorem readFrac_ok (s p q r : ByteArray) (n d : Int) (hd : Bool) (w : World) (hr : r = if hd then q else ⟨#[49]⟩) (hv : VF n d) (h1 : ¬ (hd = true ∧ d = 1))
    (HC : Hid (∀ W, Below w.heap.size w W → Calls Tryd.prog 62 #[.string s, .string ⟨#[47]⟩] W fun e w' => e = .returned (.tuple #[.string p, .string q, .bool hd]) ∧ Below W.heap.size W w'))
    (HP : Hid (∀ W, Below w.heap.size w W → Calls Tryd.prog 50 #[.string p] W fun e w' => e = .returned (.tuple #[.int .i64 n, .bool true]) ∧ Below W.heap.size W w'))
    (HQ : Hid (∀ W, Below w.heap.size w W → Calls Tryd.prog 50 #[.string r] W fun e w' => e = .returned (.tuple #[.int .i64 d, .bool true]) ∧ Below W.heap.size W w')) :
    Calls Tryd.prog 28 #[.string s] w fun e w' => e = .returned (.tuple #[.agg #[.int .i64 n, .int .i64 d], .bool true]) ∧ Below w.heap.size w w' := by
  have HB0 : Hid (Below w.heap.size w (w.alloc (.cells #[.int .i64 0, .int .i64 0] 39)) ∧ C2 (w.alloc (.cells #[.int .i64 0, .int .i64 0] 39)) w.heap.size (.int .i64 0) (.int .i64 0)) := ⟨(Below.refl _ _).alloc (Nat.le_refl _) _, C2.new w _ _ _⟩
  have HV := Lib.hid hv
  clear hv
  cases hd with
  | true =>
    obtain rfl : r = q := hr
    have hd1 : (d == 1) = false := by rw [beq_eq_false_iff_ne]; exact fun e => h1 ⟨rfl, e⟩
    clear h1
    go_enter Tryd.func28, Tryd.ntmps28
    go_wp2_with fail
    refine (HC.out _ HB0.out.1).mono ?_
    rintro e w1 ⟨rfl, hb⟩
    have B1 : Hid (Below w.heap.size w w1 ∧ C2 w1 w.heap.size (.int .i64 0) (.int .i64 0)) := ⟨HB0.out.1.trans (hb.mono HB0.out.1.size), HB0.out.2.below hb HB0.out.2.lt⟩
    clear hb HC
    go_wp2_with fail
    refine (HP.out _ B1.out.1).mono ?_
    rintro e w2 ⟨rfl, hb⟩
    have B2 : Hid (Below w.heap.size w w2 ∧ C2 w2 w.heap.size (.int .i64 0) (.int .i64 0)) := ⟨B1.out.1.trans (hb.mono B1.out.1.size), B1.out.2.below hb B1.out.2.lt⟩
    clear hb B1 HP
    go_wp2_with fail
    refine (HQ.out _ B2.out.1).mono ?_
    rintro e w3 ⟨rfl, hb⟩
    have B3 : Hid (Below w.heap.size w w3 ∧ C2 w3 w.heap.size (.int .i64 0) (.int .i64 0)) := ⟨B2.out.1.trans (hb.mono B2.out.1.size), B2.out.2.below hb B2.out.2.lt⟩
    clear hb B2 HQ
    have hB4 : Hid (Below w.heap.size w (w3.alloc (.cells #[.int .i64 n, .int .i64 d] 39)) ∧ C2 (w3.alloc (.cells #[.int .i64 n, .int .i64 d] 39)) w.heap.size (.int .i64 0) (.int .i64 0) ∧ C2 (w3.alloc (.cells #[.int .i64 n, .int .i64 d] 39)) w3.heap.size (.int .i64 n) (.int .i64 d)) := ⟨B3.out.1.alloc B3.out.1.size _, B3.out.2.alloc _, C2.new w3 _ _ _⟩
    have z3 := B3.out.2.lt
    clear B3
    go_wp2_with fail
    refine (valid_yes _ _ _ HV.out).mono ?_
    rintro e w4 ⟨rfl, hb⟩
    have B4 : Hid (Below w.heap.size w w4 ∧ C2 w4 w.heap.size (.int .i64 0) (.int .i64 0) ∧ C2 w4 w3.heap.size (.int .i64 n) (.int .i64 d)) := ⟨hB4.out.1.trans (hb.mono hB4.out.1.size), hB4.out.2.1.below hb hB4.out.2.1.lt, hB4.out.2.2.below hb hB4.out.2.2.lt⟩
    clear hb hB4
    obtain ⟨⟨c4, d4⟩, _⟩ := B4.out.2.2
    have z5 : ¬ w3.heap.size = w.heap.size := by omega
    have z6 : ¬ w.heap.size = w3.heap.size := by omega
    obtain ⟨⟨c5, d5⟩, f5, f6⟩ := B4.out.2.1
    have P := C2.put ⟨⟨c5, d5⟩, f5, f6⟩ (.int .i64 n) (.int .i64 d)
    unfold put2 at P
    obtain ⟨p0, p1⟩ := P
    go_wp2
    exact bodyPost_ret (v := .tuple #[.agg #[.int .i64 n, .int .i64 d], .bool true]) (by simp [results, Tryd.results28, go_sem, p0, p1]) rfl ⟨rfl, below_put2 B4.out.1 (Nat.le_refl _) _ _⟩
  | false =>
    obtain rfl : r = ⟨#[49]⟩ := hr
    clear h1
    go_enter Tryd.func28, Tryd.ntmps28
    go_wp2_with fail
    refine (HC.out _ HB0.out.1).mono ?_
    rintro e w1 ⟨rfl, hb⟩
    have B1 : Hid (Below w.heap.size w w1 ∧ C2 w1 w.heap.size (.int .i64 0) (.int .i64 0)) := ⟨HB0.out.1.trans (hb.mono HB0.out.1.size), HB0.out.2.below hb HB0.out.2.lt⟩
    clear hb HC
    go_wp2_with fail
    refine (HP.out _ B1.out.1).mono ?_
    rintro e w2 ⟨rfl, hb⟩
    have B2 : Hid (Below w.heap.size w w2 ∧ C2 w2 w.heap.size (.int .i64 0) (.int .i64 0)) := ⟨B1.out.1.trans (hb.mono B1.out.1.size), B1.out.2.below hb B1.out.2.lt⟩
    clear hb B1 HP
    go_wp2_with fail
    refine (HQ.out _ B2.out.1).mono ?_
    rintro e w3 ⟨rfl, hb⟩
    have B3 : Hid (Below w.heap.size w w3 ∧ C2 w3 w.heap.size (.int .i64 0) (.int .i64 0)) := ⟨B2.out.1.trans (hb.mono B2.out.1.size), B2.out.2.below hb B2.out.2.lt⟩
    clear hb B2 HQ
    have hB4 : Hid (Below w.heap.size w (w3.alloc (.cells #[.int .i64 n, .int .i64 d] 39)) ∧ C2 (w3.alloc (.cells #[.int .i64 n, .int .i64 d] 39)) w.heap.size (.int .i64 0) (.int .i64 0) ∧ C2 (w3.alloc (.cells #[.int .i64 n, .int .i64 d] 39)) w3.heap.size (.int .i64 n) (.int .i64 d)) := ⟨B3.out.1.alloc B3.out.1.size _, B3.out.2.alloc _, C2.new w3 _ _ _⟩
    have z3 := B3.out.2.lt
    clear B3
    go_wp2_with fail
    refine (valid_yes _ _ _ HV.out).mono ?_
    rintro e w4 ⟨rfl, hb⟩
    have B4 : Hid (Below w.heap.size w w4 ∧ C2 w4 w.heap.size (.int .i64 0) (.int .i64 0) ∧ C2 w4 w3.heap.size (.int .i64 n) (.int .i64 d)) := ⟨hB4.out.1.trans (hb.mono hB4.out.1.size), hB4.out.2.1.below hb hB4.out.2.1.lt, hB4.out.2.2.below hb hB4.out.2.2.lt⟩
    clear hb hB4
    obtain ⟨⟨c4, d4⟩, _⟩ := B4.out.2.2
    have z5 : ¬ w3.heap.size = w.heap.size := by omega
    have z6 : ¬ w.heap.size = w3.heap.size := by omega
    obtain ⟨⟨c5, d5⟩, f5, f6⟩ := B4.out.2.1
    have P := C2.put ⟨⟨c5, d5⟩, f5, f6⟩ (.int .i64 n) (.int .i64 d)
    unfold put2 at P
    obtain ⟨p0, p1⟩ := P
    go_wp2
    exact bodyPost_ret (v := .tuple #[.agg #[.int .i64 n, .int .i64 d], .bool true]) (by simp [results, Tryd.results28, go_sem, p0, p1]) rfl ⟨rfl, below_put2 B4.out.1 (Nat.le_refl _) _ _⟩
set_option maxRecDepth 8000 in
theorem readFrac_one (s p q r : ByteArray) (n d : Int) (hd : Bool) (w : World) (hr : r = if hd then q else ⟨#[49]⟩) (hv : VF n d) (h1 : hd = true ∧ d = 1)
    (HC : Hid (∀ W, Below w.heap.size w W → Calls Tryd.prog 62 #[.string s, .string ⟨#[47]⟩] W fun e w' => e = .returned (.tuple #[.string p, .string q, .bool hd]) ∧ Below W.heap.size W w'))
    (HP : Hid (∀ W, Below w.heap.size w W → Calls Tryd.prog 50 #[.string p] W fun e w' => e = .returned (.tuple #[.int .i64 n, .bool true]) ∧ Below W.heap.size W w'))
    (HQ : Hid (∀ W, Below w.heap.size w W → Calls Tryd.prog 50 #[.string r] W fun e w' => e = .returned (.tuple #[.int .i64 d, .bool true]) ∧ Below W.heap.size W w')) :
    Calls Tryd.prog 28 #[.string s] w fun e w' => e = .returned (.tuple #[.agg #[.int .i64 0, .int .i64 0], .bool false]) ∧ Below w.heap.size w w' := by
  have HB0 : Hid (Below w.heap.size w (w.alloc (.cells #[.int .i64 0, .int .i64 0] 39)) ∧ C2 (w.alloc (.cells #[.int .i64 0, .int .i64 0] 39)) w.heap.size (.int .i64 0) (.int .i64 0)) := ⟨(Below.refl _ _).alloc (Nat.le_refl _) _, C2.new w _ _ _⟩
  have HV := Lib.hid hv
  clear hv
  obtain ⟨rfl, rfl⟩ := h1
  obtain rfl : r = q := hr
  go_enter Tryd.func28, Tryd.ntmps28
  go_wp2_with fail
  refine (HC.out _ HB0.out.1).mono ?_
  rintro e w1 ⟨rfl, hb⟩
  have B1 : Hid (Below w.heap.size w w1 ∧ C2 w1 w.heap.size (.int .i64 0) (.int .i64 0)) := ⟨HB0.out.1.trans (hb.mono HB0.out.1.size), HB0.out.2.below hb HB0.out.2.lt⟩
  clear hb HC
  go_wp2_with fail
  refine (HP.out _ B1.out.1).mono ?_
  rintro e w2 ⟨rfl, hb⟩
  have B2 : Hid (Below w.heap.size w w2 ∧ C2 w2 w.heap.size (.int .i64 0) (.int .i64 0)) := ⟨B1.out.1.trans (hb.mono B1.out.1.size), B1.out.2.below hb B1.out.2.lt⟩
  clear hb B1 HP
  go_wp2_with fail
  refine (HQ.out _ B2.out.1).mono ?_
  rintro e w3 ⟨rfl, hb⟩
  have B3 : Hid (Below w.heap.size w w3 ∧ C2 w3 w.heap.size (.int .i64 0) (.int .i64 0)) := ⟨B2.out.1.trans (hb.mono B2.out.1.size), B2.out.2.below hb B2.out.2.lt⟩
  clear hb B2 HQ
  have hB4 : Hid (Below w.heap.size w (w3.alloc (.cells #[.int .i64 n, .int .i64 1] 39)) ∧ C2 (w3.alloc (.cells #[.int .i64 n, .int .i64 1] 39)) w.heap.size (.int .i64 0) (.int .i64 0) ∧ C2 (w3.alloc (.cells #[.int .i64 n, .int .i64 1] 39)) w3.heap.size (.int .i64 n) (.int .i64 1)) := ⟨B3.out.1.alloc B3.out.1.size _, B3.out.2.alloc _, C2.new w3 _ _ _⟩
  have z3 := B3.out.2.lt
  clear B3
  go_wp2_with fail
  refine (valid_yes _ _ _ HV.out).mono ?_
  rintro e w4 ⟨rfl, hb⟩
  have B4 : Hid (Below w.heap.size w w4 ∧ C2 w4 w.heap.size (.int .i64 0) (.int .i64 0) ∧ C2 w4 w3.heap.size (.int .i64 n) (.int .i64 1)) := ⟨hB4.out.1.trans (hb.mono hB4.out.1.size), hB4.out.2.1.below hb hB4.out.2.1.lt, hB4.out.2.2.below hb hB4.out.2.2.lt⟩
  clear hb hB4
  obtain ⟨⟨c5, d5⟩, f5, f6⟩ := B4.out.2.1
  have P := C2.put ⟨⟨c5, d5⟩, f5, f6⟩ (.int .i64 0) (.int .i64 0)
  unfold put2 at P
  obtain ⟨p0, p1⟩ := P
  go_wp2
  exact bodyPost_ret (v := .tuple #[.agg #[.int .i64 0, .int .i64 0], .bool false]) (by simp [results, Tryd.results28, go_sem, p0, p1]) rfl ⟨rfl, below_put2 B4.out.1 (Nat.le_refl _) _ _⟩
set_option maxRecDepth 8000 in
theorem readFrac_bad (s p q r : ByteArray) (n d : Int) (hd : Bool) (w : World) (hr : r = if hd then q else ⟨#[49]⟩) (hv : ¬ VF n d)
    (HC : Hid (∀ W, Below w.heap.size w W → Calls Tryd.prog 62 #[.string s, .string ⟨#[47]⟩] W fun e w' => e = .returned (.tuple #[.string p, .string q, .bool hd]) ∧ Below W.heap.size W w'))
    (HP : Hid (∀ W, Below w.heap.size w W → Calls Tryd.prog 50 #[.string p] W fun e w' => e = .returned (.tuple #[.int .i64 n, .bool true]) ∧ Below W.heap.size W w'))
    (HQ : Hid (∀ W, Below w.heap.size w W → Calls Tryd.prog 50 #[.string r] W fun e w' => e = .returned (.tuple #[.int .i64 d, .bool true]) ∧ Below W.heap.size W w')) :
    Calls Tryd.prog 28 #[.string s] w fun e w' => e = .returned (.tuple #[.agg #[.int .i64 0, .int .i64 0], .bool false]) ∧ Below w.heap.size w w' := by
  have HB0 : Hid (Below w.heap.size w (w.alloc (.cells #[.int .i64 0, .int .i64 0] 39)) ∧ C2 (w.alloc (.cells #[.int .i64 0, .int .i64 0] 39)) w.heap.size (.int .i64 0) (.int .i64 0)) := ⟨(Below.refl _ _).alloc (Nat.le_refl _) _, C2.new w _ _ _⟩
  have HV := Lib.hid hv
  clear hv
  cases hd with
  | true =>
    obtain rfl : r = q := hr
    go_enter Tryd.func28, Tryd.ntmps28
    go_wp2_with fail
    refine (HC.out _ HB0.out.1).mono ?_
    rintro e w1 ⟨rfl, hb⟩
    have B1 : Hid (Below w.heap.size w w1 ∧ C2 w1 w.heap.size (.int .i64 0) (.int .i64 0)) := ⟨HB0.out.1.trans (hb.mono HB0.out.1.size), HB0.out.2.below hb HB0.out.2.lt⟩
    clear hb HC
    go_wp2_with fail
    refine (HP.out _ B1.out.1).mono ?_
    rintro e w2 ⟨rfl, hb⟩
    have B2 : Hid (Below w.heap.size w w2 ∧ C2 w2 w.heap.size (.int .i64 0) (.int .i64 0)) := ⟨B1.out.1.trans (hb.mono B1.out.1.size), B1.out.2.below hb B1.out.2.lt⟩
    clear hb B1 HP
    go_wp2_with fail
    refine (HQ.out _ B2.out.1).mono ?_
    rintro e w3 ⟨rfl, hb⟩
    have B3 : Hid (Below w.heap.size w w3 ∧ C2 w3 w.heap.size (.int .i64 0) (.int .i64 0)) := ⟨B2.out.1.trans (hb.mono B2.out.1.size), B2.out.2.below hb B2.out.2.lt⟩
    clear hb B2 HQ
    have hB4 : Hid (Below w.heap.size w (w3.alloc (.cells #[.int .i64 n, .int .i64 d] 39)) ∧ C2 (w3.alloc (.cells #[.int .i64 n, .int .i64 d] 39)) w.heap.size (.int .i64 0) (.int .i64 0) ∧ C2 (w3.alloc (.cells #[.int .i64 n, .int .i64 d] 39)) w3.heap.size (.int .i64 n) (.int .i64 d)) := ⟨B3.out.1.alloc B3.out.1.size _, B3.out.2.alloc _, C2.new w3 _ _ _⟩
    have z3 := B3.out.2.lt
    clear B3
    go_wp2_with fail
    refine (valid_no _ _ _ HV.out).mono ?_
    rintro e w4 ⟨rfl, hb⟩
    have B4 : Hid (Below w.heap.size w w4 ∧ C2 w4 w.heap.size (.int .i64 0) (.int .i64 0) ∧ C2 w4 w3.heap.size (.int .i64 n) (.int .i64 d)) := ⟨hB4.out.1.trans (hb.mono hB4.out.1.size), hB4.out.2.1.below hb hB4.out.2.1.lt, hB4.out.2.2.below hb hB4.out.2.2.lt⟩
    clear hb hB4
    obtain ⟨⟨c5, d5⟩, f5, f6⟩ := B4.out.2.1
    have P := C2.put ⟨⟨c5, d5⟩, f5, f6⟩ (.int .i64 0) (.int .i64 0)
    unfold put2 at P
    obtain ⟨p0, p1⟩ := P
    go_wp2
    exact bodyPost_ret (v := .tuple #[.agg #[.int .i64 0, .int .i64 0], .bool false]) (by simp [results, Tryd.results28, go_sem, p0, p1]) rfl ⟨rfl, below_put2 B4.out.1 (Nat.le_refl _) _ _⟩
  | false =>
    obtain rfl : r = ⟨#[49]⟩ := hr
    go_enter Tryd.func28, Tryd.ntmps28
    go_wp2_with fail
    refine (HC.out _ HB0.out.1).mono ?_
    rintro e w1 ⟨rfl, hb⟩
    have B1 : Hid (Below w.heap.size w w1 ∧ C2 w1 w.heap.size (.int .i64 0) (.int .i64 0)) := ⟨HB0.out.1.trans (hb.mono HB0.out.1.size), HB0.out.2.below hb HB0.out.2.lt⟩
    clear hb HC
    go_wp2_with fail
    refine (HP.out _ B1.out.1).mono ?_
    rintro e w2 ⟨rfl, hb⟩
    have B2 : Hid (Below w.heap.size w w2 ∧ C2 w2 w.heap.size (.int .i64 0) (.int .i64 0)) := ⟨B1.out.1.trans (hb.mono B1.out.1.size), B1.out.2.below hb B1.out.2.lt⟩
    clear hb B1 HP
    go_wp2_with fail
    refine (HQ.out _ B2.out.1).mono ?_
    rintro e w3 ⟨rfl, hb⟩
    have B3 : Hid (Below w.heap.size w w3 ∧ C2 w3 w.heap.size (.int .i64 0) (.int .i64 0)) := ⟨B2.out.1.trans (hb.mono B2.out.1.size), B2.out.2.below hb B2.out.2.lt⟩
    clear hb B2 HQ
    have hB4 : Hid (Below w.heap.size w (w3.alloc (.cells #[.int .i64 n, .int .i64 d] 39)) ∧ C2 (w3.alloc (.cells #[.int .i64 n, .int .i64 d] 39)) w.heap.size (.int .i64 0) (.int .i64 0) ∧ C2 (w3.alloc (.cells #[.int .i64 n, .int .i64 d] 39)) w3.heap.size (.int .i64 n) (.int .i64 d)) := ⟨B3.out.1.alloc B3.out.1.size _, B3.out.2.alloc _, C2.new w3 _ _ _⟩
    have z3 := B3.out.2.lt
    clear B3
    go_wp2_with fail
    refine (valid_no _ _ _ HV.out).mono ?_
    rintro e w4 ⟨rfl, hb⟩
    have B4 : Hid (Below w.heap.size w w4 ∧ C2 w4 w.heap.size (.int .i64 0) (.int .i64 0) ∧ C2 w4 w3.heap.size (.int .i64 n) (.int .i64 d)) := ⟨hB4.out.1.trans (hb.mono hB4.out.1.size), hB4.out.2.1.below hb hB4.out.2.1.lt, hB4.out.2.2.below hb hB4.out.2.2.lt⟩
    clear hb hB4
    obtain ⟨⟨c5, d5⟩, f5, f6⟩ := B4.out.2.1
    have P := C2.put ⟨⟨c5, d5⟩, f5, f6⟩ (.int .i64 0) (.int .i64 0)
    unfold put2 at P
    obtain ⟨p0, p1⟩ := P
    go_wp2
    exact bodyPost_ret (v := .tuple #[.agg #[.int .i64 0, .int .i64 0], .bool false]) (by simp [results, Tryd.results28, go_sem, p0, p1]) rfl ⟨rfl, below_put2 B4.out.1 (Nat.le_refl _) _ _⟩
set_option maxRecDepth 8000 in
theorem readFrac_n1t (s p q r : ByteArray) (n d : Int) (hd : Bool) (w : World) (hr : r = if hd then q else ⟨#[49]⟩)
    (HC : Hid (∀ W, Below w.heap.size w W → Calls Tryd.prog 62 #[.string s, .string ⟨#[47]⟩] W fun e w' => e = .returned (.tuple #[.string p, .string q, .bool hd]) ∧ Below W.heap.size W w'))
    (HP : Hid (∀ W, Below w.heap.size w W → Calls Tryd.prog 50 #[.string p] W fun e w' => e = .returned (.tuple #[.int .i64 n, .bool false]) ∧ Below W.heap.size W w'))
    (HQ : Hid (∀ W, Below w.heap.size w W → Calls Tryd.prog 50 #[.string r] W fun e w' => e = .returned (.tuple #[.int .i64 d, .bool true]) ∧ Below W.heap.size W w')) :
    Calls Tryd.prog 28 #[.string s] w fun e w' => e = .returned (.tuple #[.agg #[.int .i64 0, .int .i64 0], .bool false]) ∧ Below w.heap.size w w' := by
  have HB0 : Hid (Below w.heap.size w (w.alloc (.cells #[.int .i64 0, .int .i64 0] 39)) ∧ C2 (w.alloc (.cells #[.int .i64 0, .int .i64 0] 39)) w.heap.size (.int .i64 0) (.int .i64 0)) := ⟨(Below.refl _ _).alloc (Nat.le_refl _) _, C2.new w _ _ _⟩
  cases hd with
  | true =>
    obtain rfl : r = q := hr
    go_enter Tryd.func28, Tryd.ntmps28
    go_wp2_with fail
    refine (HC.out _ HB0.out.1).mono ?_
    rintro e w1 ⟨rfl, hb⟩
    have B1 : Hid (Below w.heap.size w w1 ∧ C2 w1 w.heap.size (.int .i64 0) (.int .i64 0)) := ⟨HB0.out.1.trans (hb.mono HB0.out.1.size), HB0.out.2.below hb HB0.out.2.lt⟩
    clear hb HC
    go_wp2_with fail
    refine (HP.out _ B1.out.1).mono ?_
    rintro e w2 ⟨rfl, hb⟩
    have B2 : Hid (Below w.heap.size w w2 ∧ C2 w2 w.heap.size (.int .i64 0) (.int .i64 0)) := ⟨B1.out.1.trans (hb.mono B1.out.1.size), B1.out.2.below hb B1.out.2.lt⟩
    clear hb B1 HP
    go_wp2_with fail
    refine (HQ.out _ B2.out.1).mono ?_
    rintro e w3 ⟨rfl, hb⟩
    have B3 : Hid (Below w.heap.size w w3 ∧ C2 w3 w.heap.size (.int .i64 0) (.int .i64 0)) := ⟨B2.out.1.trans (hb.mono B2.out.1.size), B2.out.2.below hb B2.out.2.lt⟩
    clear hb B2 HQ
    obtain ⟨⟨c5, d5⟩, f5, f6⟩ := B3.out.2
    have hbz := B3.out.1.size
    have hA : Below w3.heap.size w3 (w3.alloc (.cells #[.int .i64 n, .int .i64 d] 39)) := (Below.refl _ _).alloc (Nat.le_refl _) _
    have a5 := (hA.cell (p := ⟨w.heap.size, 0, none⟩) B3.out.2.lt).trans c5
    have a6 := (hA.cell (p := ⟨w.heap.size, 1, none⟩) B3.out.2.lt).trans d5
    have a7 := (hA.frozen (p := ⟨w.heap.size, 0, none⟩) B3.out.2.lt).trans f5
    have a8 := (hA.frozen (p := ⟨w.heap.size, 1, none⟩) B3.out.2.lt).trans f6
    have P := C2.put ⟨⟨a5, a6⟩, a7, a8⟩ (.int .i64 0) (.int .i64 0)
    unfold put2 at P
    obtain ⟨p0, p1⟩ := P
    clear hA
    go_wp2
    exact bodyPost_ret (v := .tuple #[.agg #[.int .i64 0, .int .i64 0], .bool false]) (by simp [results, Tryd.results28, go_sem, p0, p1]) rfl ⟨rfl, below_put2 (B3.out.1.alloc hbz _) (Nat.le_refl _) _ _⟩
  | false =>
    obtain rfl : r = ⟨#[49]⟩ := hr
    go_enter Tryd.func28, Tryd.ntmps28
    go_wp2_with fail
    refine (HC.out _ HB0.out.1).mono ?_
    rintro e w1 ⟨rfl, hb⟩
    have B1 : Hid (Below w.heap.size w w1 ∧ C2 w1 w.heap.size (.int .i64 0) (.int .i64 0)) := ⟨HB0.out.1.trans (hb.mono HB0.out.1.size), HB0.out.2.below hb HB0.out.2.lt⟩
    clear hb HC
    go_wp2_with fail
    refine (HP.out _ B1.out.1).mono ?_
    rintro e w2 ⟨rfl, hb⟩
    have B2 : Hid (Below w.heap.size w w2 ∧ C2 w2 w.heap.size (.int .i64 0) (.int .i64 0)) := ⟨B1.out.1.trans (hb.mono B1.out.1.size), B1.out.2.below hb B1.out.2.lt⟩
    clear hb B1 HP
    go_wp2_with fail
    refine (HQ.out _ B2.out.1).mono ?_
    rintro e w3 ⟨rfl, hb⟩
    have B3 : Hid (Below w.heap.size w w3 ∧ C2 w3 w.heap.size (.int .i64 0) (.int .i64 0)) := ⟨B2.out.1.trans (hb.mono B2.out.1.size), B2.out.2.below hb B2.out.2.lt⟩
    clear hb B2 HQ
    obtain ⟨⟨c5, d5⟩, f5, f6⟩ := B3.out.2
    have hbz := B3.out.1.size
    have hA : Below w3.heap.size w3 (w3.alloc (.cells #[.int .i64 n, .int .i64 d] 39)) := (Below.refl _ _).alloc (Nat.le_refl _) _
    have a5 := (hA.cell (p := ⟨w.heap.size, 0, none⟩) B3.out.2.lt).trans c5
    have a6 := (hA.cell (p := ⟨w.heap.size, 1, none⟩) B3.out.2.lt).trans d5
    have a7 := (hA.frozen (p := ⟨w.heap.size, 0, none⟩) B3.out.2.lt).trans f5
    have a8 := (hA.frozen (p := ⟨w.heap.size, 1, none⟩) B3.out.2.lt).trans f6
    have P := C2.put ⟨⟨a5, a6⟩, a7, a8⟩ (.int .i64 0) (.int .i64 0)
    unfold put2 at P
    obtain ⟨p0, p1⟩ := P
    clear hA
    go_wp2
    exact bodyPost_ret (v := .tuple #[.agg #[.int .i64 0, .int .i64 0], .bool false]) (by simp [results, Tryd.results28, go_sem, p0, p1]) rfl ⟨rfl, below_put2 (B3.out.1.alloc hbz _) (Nat.le_refl _) _ _⟩
set_option maxRecDepth 8000 in
theorem readFrac_n1f (s p q r : ByteArray) (n d : Int) (hd : Bool) (w : World) (hr : r = if hd then q else ⟨#[49]⟩)
    (HC : Hid (∀ W, Below w.heap.size w W → Calls Tryd.prog 62 #[.string s, .string ⟨#[47]⟩] W fun e w' => e = .returned (.tuple #[.string p, .string q, .bool hd]) ∧ Below W.heap.size W w'))
    (HP : Hid (∀ W, Below w.heap.size w W → Calls Tryd.prog 50 #[.string p] W fun e w' => e = .returned (.tuple #[.int .i64 n, .bool false]) ∧ Below W.heap.size W w'))
    (HQ : Hid (∀ W, Below w.heap.size w W → Calls Tryd.prog 50 #[.string r] W fun e w' => e = .returned (.tuple #[.int .i64 d, .bool false]) ∧ Below W.heap.size W w')) :
    Calls Tryd.prog 28 #[.string s] w fun e w' => e = .returned (.tuple #[.agg #[.int .i64 0, .int .i64 0], .bool false]) ∧ Below w.heap.size w w' := by
  have HB0 : Hid (Below w.heap.size w (w.alloc (.cells #[.int .i64 0, .int .i64 0] 39)) ∧ C2 (w.alloc (.cells #[.int .i64 0, .int .i64 0] 39)) w.heap.size (.int .i64 0) (.int .i64 0)) := ⟨(Below.refl _ _).alloc (Nat.le_refl _) _, C2.new w _ _ _⟩
  cases hd with
  | true =>
    obtain rfl : r = q := hr
    go_enter Tryd.func28, Tryd.ntmps28
    go_wp2_with fail
    refine (HC.out _ HB0.out.1).mono ?_
    rintro e w1 ⟨rfl, hb⟩
    have B1 : Hid (Below w.heap.size w w1 ∧ C2 w1 w.heap.size (.int .i64 0) (.int .i64 0)) := ⟨HB0.out.1.trans (hb.mono HB0.out.1.size), HB0.out.2.below hb HB0.out.2.lt⟩
    clear hb HC
    go_wp2_with fail
    refine (HP.out _ B1.out.1).mono ?_
    rintro e w2 ⟨rfl, hb⟩
    have B2 : Hid (Below w.heap.size w w2 ∧ C2 w2 w.heap.size (.int .i64 0) (.int .i64 0)) := ⟨B1.out.1.trans (hb.mono B1.out.1.size), B1.out.2.below hb B1.out.2.lt⟩
    clear hb B1 HP
    go_wp2_with fail
    refine (HQ.out _ B2.out.1).mono ?_
    rintro e w3 ⟨rfl, hb⟩
    have B3 : Hid (Below w.heap.size w w3 ∧ C2 w3 w.heap.size (.int .i64 0) (.int .i64 0)) := ⟨B2.out.1.trans (hb.mono B2.out.1.size), B2.out.2.below hb B2.out.2.lt⟩
    clear hb B2 HQ
    obtain ⟨⟨c5, d5⟩, f5, f6⟩ := B3.out.2
    have hbz := B3.out.1.size
    have hA : Below w3.heap.size w3 (w3.alloc (.cells #[.int .i64 n, .int .i64 d] 39)) := (Below.refl _ _).alloc (Nat.le_refl _) _
    have a5 := (hA.cell (p := ⟨w.heap.size, 0, none⟩) B3.out.2.lt).trans c5
    have a6 := (hA.cell (p := ⟨w.heap.size, 1, none⟩) B3.out.2.lt).trans d5
    have a7 := (hA.frozen (p := ⟨w.heap.size, 0, none⟩) B3.out.2.lt).trans f5
    have a8 := (hA.frozen (p := ⟨w.heap.size, 1, none⟩) B3.out.2.lt).trans f6
    have P := C2.put ⟨⟨a5, a6⟩, a7, a8⟩ (.int .i64 0) (.int .i64 0)
    unfold put2 at P
    obtain ⟨p0, p1⟩ := P
    clear hA
    go_wp2
    exact bodyPost_ret (v := .tuple #[.agg #[.int .i64 0, .int .i64 0], .bool false]) (by simp [results, Tryd.results28, go_sem, p0, p1]) rfl ⟨rfl, below_put2 (B3.out.1.alloc hbz _) (Nat.le_refl _) _ _⟩
  | false =>
    obtain rfl : r = ⟨#[49]⟩ := hr
    go_enter Tryd.func28, Tryd.ntmps28
    go_wp2_with fail
    refine (HC.out _ HB0.out.1).mono ?_
    rintro e w1 ⟨rfl, hb⟩
    have B1 : Hid (Below w.heap.size w w1 ∧ C2 w1 w.heap.size (.int .i64 0) (.int .i64 0)) := ⟨HB0.out.1.trans (hb.mono HB0.out.1.size), HB0.out.2.below hb HB0.out.2.lt⟩
    clear hb HC
    go_wp2_with fail
    refine (HP.out _ B1.out.1).mono ?_
    rintro e w2 ⟨rfl, hb⟩
    have B2 : Hid (Below w.heap.size w w2 ∧ C2 w2 w.heap.size (.int .i64 0) (.int .i64 0)) := ⟨B1.out.1.trans (hb.mono B1.out.1.size), B1.out.2.below hb B1.out.2.lt⟩
    clear hb B1 HP
    go_wp2_with fail
    refine (HQ.out _ B2.out.1).mono ?_
    rintro e w3 ⟨rfl, hb⟩
    have B3 : Hid (Below w.heap.size w w3 ∧ C2 w3 w.heap.size (.int .i64 0) (.int .i64 0)) := ⟨B2.out.1.trans (hb.mono B2.out.1.size), B2.out.2.below hb B2.out.2.lt⟩
    clear hb B2 HQ
    obtain ⟨⟨c5, d5⟩, f5, f6⟩ := B3.out.2
    have hbz := B3.out.1.size
    have hA : Below w3.heap.size w3 (w3.alloc (.cells #[.int .i64 n, .int .i64 d] 39)) := (Below.refl _ _).alloc (Nat.le_refl _) _
    have a5 := (hA.cell (p := ⟨w.heap.size, 0, none⟩) B3.out.2.lt).trans c5
    have a6 := (hA.cell (p := ⟨w.heap.size, 1, none⟩) B3.out.2.lt).trans d5
    have a7 := (hA.frozen (p := ⟨w.heap.size, 0, none⟩) B3.out.2.lt).trans f5
    have a8 := (hA.frozen (p := ⟨w.heap.size, 1, none⟩) B3.out.2.lt).trans f6
    have P := C2.put ⟨⟨a5, a6⟩, a7, a8⟩ (.int .i64 0) (.int .i64 0)
    unfold put2 at P
    obtain ⟨p0, p1⟩ := P
    clear hA
    go_wp2
    exact bodyPost_ret (v := .tuple #[.agg #[.int .i64 0, .int .i64 0], .bool false]) (by simp [results, Tryd.results28, go_sem, p0, p1]) rfl ⟨rfl, below_put2 (B3.out.1.alloc hbz _) (Nat.le_refl _) _ _⟩
set_option maxRecDepth 8000 in
theorem readFrac_n2 (s p q r : ByteArray) (n d : Int) (hd : Bool) (w : World) (hr : r = if hd then q else ⟨#[49]⟩)
    (HC : Hid (∀ W, Below w.heap.size w W → Calls Tryd.prog 62 #[.string s, .string ⟨#[47]⟩] W fun e w' => e = .returned (.tuple #[.string p, .string q, .bool hd]) ∧ Below W.heap.size W w'))
    (HP : Hid (∀ W, Below w.heap.size w W → Calls Tryd.prog 50 #[.string p] W fun e w' => e = .returned (.tuple #[.int .i64 n, .bool true]) ∧ Below W.heap.size W w'))
    (HQ : Hid (∀ W, Below w.heap.size w W → Calls Tryd.prog 50 #[.string r] W fun e w' => e = .returned (.tuple #[.int .i64 d, .bool false]) ∧ Below W.heap.size W w')) :
    Calls Tryd.prog 28 #[.string s] w fun e w' => e = .returned (.tuple #[.agg #[.int .i64 0, .int .i64 0], .bool false]) ∧ Below w.heap.size w w' := by
  have HB0 : Hid (Below w.heap.size w (w.alloc (.cells #[.int .i64 0, .int .i64 0] 39)) ∧ C2 (w.alloc (.cells #[.int .i64 0, .int .i64 0] 39)) w.heap.size (.int .i64 0) (.int .i64 0)) := ⟨(Below.refl _ _).alloc (Nat.le_refl _) _, C2.new w _ _ _⟩
  cases hd with
  | true =>
    obtain rfl : r = q := hr
    go_enter Tryd.func28, Tryd.ntmps28
    go_wp2_with fail
    refine (HC.out _ HB0.out.1).mono ?_
    rintro e w1 ⟨rfl, hb⟩
    have B1 : Hid (Below w.heap.size w w1 ∧ C2 w1 w.heap.size (.int .i64 0) (.int .i64 0)) := ⟨HB0.out.1.trans (hb.mono HB0.out.1.size), HB0.out.2.below hb HB0.out.2.lt⟩
    clear hb HC
    go_wp2_with fail
    refine (HP.out _ B1.out.1).mono ?_
    rintro e w2 ⟨rfl, hb⟩
    have B2 : Hid (Below w.heap.size w w2 ∧ C2 w2 w.heap.size (.int .i64 0) (.int .i64 0)) := ⟨B1.out.1.trans (hb.mono B1.out.1.size), B1.out.2.below hb B1.out.2.lt⟩
    clear hb B1 HP
    go_wp2_with fail
    refine (HQ.out _ B2.out.1).mono ?_
    rintro e w3 ⟨rfl, hb⟩
    have B3 : Hid (Below w.heap.size w w3 ∧ C2 w3 w.heap.size (.int .i64 0) (.int .i64 0)) := ⟨B2.out.1.trans (hb.mono B2.out.1.size), B2.out.2.below hb B2.out.2.lt⟩
    clear hb B2 HQ
    obtain ⟨⟨c5, d5⟩, f5, f6⟩ := B3.out.2
    have hbz := B3.out.1.size
    have hA : Below w3.heap.size w3 (w3.alloc (.cells #[.int .i64 n, .int .i64 d] 39)) := (Below.refl _ _).alloc (Nat.le_refl _) _
    have a5 := (hA.cell (p := ⟨w.heap.size, 0, none⟩) B3.out.2.lt).trans c5
    have a6 := (hA.cell (p := ⟨w.heap.size, 1, none⟩) B3.out.2.lt).trans d5
    have a7 := (hA.frozen (p := ⟨w.heap.size, 0, none⟩) B3.out.2.lt).trans f5
    have a8 := (hA.frozen (p := ⟨w.heap.size, 1, none⟩) B3.out.2.lt).trans f6
    have P := C2.put ⟨⟨a5, a6⟩, a7, a8⟩ (.int .i64 0) (.int .i64 0)
    unfold put2 at P
    obtain ⟨p0, p1⟩ := P
    clear hA
    go_wp2
    exact bodyPost_ret (v := .tuple #[.agg #[.int .i64 0, .int .i64 0], .bool false]) (by simp [results, Tryd.results28, go_sem, p0, p1]) rfl ⟨rfl, below_put2 (B3.out.1.alloc hbz _) (Nat.le_refl _) _ _⟩
  | false =>
    obtain rfl : r = ⟨#[49]⟩ := hr
    go_enter Tryd.func28, Tryd.ntmps28
    go_wp2_with fail
    refine (HC.out _ HB0.out.1).mono ?_
    rintro e w1 ⟨rfl, hb⟩
    have B1 : Hid (Below w.heap.size w w1 ∧ C2 w1 w.heap.size (.int .i64 0) (.int .i64 0)) := ⟨HB0.out.1.trans (hb.mono HB0.out.1.size), HB0.out.2.below hb HB0.out.2.lt⟩
    clear hb HC
    go_wp2_with fail
    refine (HP.out _ B1.out.1).mono ?_
    rintro e w2 ⟨rfl, hb⟩
    have B2 : Hid (Below w.heap.size w w2 ∧ C2 w2 w.heap.size (.int .i64 0) (.int .i64 0)) := ⟨B1.out.1.trans (hb.mono B1.out.1.size), B1.out.2.below hb B1.out.2.lt⟩
    clear hb B1 HP
    go_wp2_with fail
    refine (HQ.out _ B2.out.1).mono ?_
    rintro e w3 ⟨rfl, hb⟩
    have B3 : Hid (Below w.heap.size w w3 ∧ C2 w3 w.heap.size (.int .i64 0) (.int .i64 0)) := ⟨B2.out.1.trans (hb.mono B2.out.1.size), B2.out.2.below hb B2.out.2.lt⟩
    clear hb B2 HQ
    obtain ⟨⟨c5, d5⟩, f5, f6⟩ := B3.out.2
    have hbz := B3.out.1.size
    have hA : Below w3.heap.size w3 (w3.alloc (.cells #[.int .i64 n, .int .i64 d] 39)) := (Below.refl _ _).alloc (Nat.le_refl _) _
    have a5 := (hA.cell (p := ⟨w.heap.size, 0, none⟩) B3.out.2.lt).trans c5
    have a6 := (hA.cell (p := ⟨w.heap.size, 1, none⟩) B3.out.2.lt).trans d5
    have a7 := (hA.frozen (p := ⟨w.heap.size, 0, none⟩) B3.out.2.lt).trans f5
    have a8 := (hA.frozen (p := ⟨w.heap.size, 1, none⟩) B3.out.2.lt).trans f6
    have P := C2.put ⟨⟨a5, a6⟩, a7, a8⟩ (.int .i64 0) (.int .i64 0)
    unfold put2 at P
    obtain ⟨p0, p1⟩ := P
    clear hA
    go_wp2
    exact bodyPost_ret (v := .tuple #[.agg #[.int .i64 0, .int .i64 0], .bool false]) (by simp [results, Tryd.results28, go_sem, p0, p1]) rfl ⟨rfl, below_put2 (B3.out.1.alloc hbz _) (Nat.le_refl _) _ _⟩
end Go.Proofs.YtpnifnpbolieoabDoor
