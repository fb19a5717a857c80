/- Lists read: impl.ReadList, spec.l01Numbers, and the law FnExactReadList. -/
import Derived.Test.YtpnifnpbolieoabDoorListOk
import Derived.Test.YtpnifnpbolieoabDoorListMath
namespace Go.Proofs.YtpnifnpbolieoabDoor
open Go.RowKit Go.PlainAid
set_option maxHeartbeats 3200000

/-- the numbers of a text -/
def AllV (xs : List Int) : Prop := ∀ x ∈ xs, Val x
def NumsOf (l : List UInt8) (xs : List Int) : Prop := xs.length ≤ 64 ∧ AllV xs ∧ segs l = xs.map Lib.itoa
theorem ba_ext' {a b : ByteArray} (h : a.data.toList = b.data.toList) : a = b := ByteArray.ext (Array.toList_inj.1 h)
theorem AllV.next {ys : List Int} {n : Int} (h : AllV ys) (hn : Val n) : AllV (ys ++ [n]) := fun x hx => by
  rcases List.mem_append.1 hx with h1 | h1
  · exact h x h1
  · rw [List.mem_singleton.1 h1]
    exact hn
theorem seg_cut (l : List UInt8) (a b : Nat) (hab : a ≤ b) (hb : l[b]? = some 44) (hp : Plain ((l.drop a).take (b - a))) : segs (l.drop a) = (l.drop a).take (b - a) :: segs (l.drop (b + 1)) := by
  obtain ⟨hl, he⟩ := List.getElem?_eq_some_iff.1 hb
  have h : l.drop a = (l.drop a).take (b - a) ++ 44 :: l.drop (b + 1) := by
    conv => lhs; rw [← List.take_append_drop (b - a) (l.drop a)]
    rw [List.drop_drop, show a + (b - a) = b by omega, ← he, List.drop_eq_getElem_cons hl]
  conv => lhs; rw [h]
  exact segs_comma _ _ hp
theorem plain_step (l : List UInt8) (a b : Nat) (hab : a ≤ b) (c : UInt8) (hb : l[b]? = some c) (hc : c ≠ 44) (hp : Plain ((l.drop a).take (b - a))) : Plain ((l.drop a).take (b + 1 - a)) := by
  rw [show b + 1 - a = (b - a) + 1 by omega, List.take_add_one, List.getElem?_drop, show a + (b - a) = b by omega, hb]
  intro x hx
  rcases List.mem_append.1 hx with h1 | h1
  · exact hp x h1
  · simp at h1
    rw [h1]
    exact hc
theorem segs_mem : ∀ (l : List UInt8), ∀ p ∈ segs l, p.length ≤ l.length
  | [], p, h => by
    rw [segs, List.mem_singleton] at h
    rw [h]
    exact Nat.le_refl _
  | c :: r, p, h => by
    unfold segs at h
    have ih := segs_mem r
    split at h
    · rcases List.mem_cons.1 h with rfl | h1
      · simp
      · have := ih p h1
        simp
        omega
    · split at h
      · rw [List.mem_singleton] at h
        rw [h]
        simp
      · next h0 t0 e =>
        rw [e] at ih
        rcases List.mem_cons.1 h with rfl | h1
        · have := ih h0 (List.mem_cons_self ..)
          simp
          omega
        · have := ih p (List.mem_cons_of_mem _ h1)
          simp
          omega
def PartR (p : ByteArray) (n : Int) (ok : Bool) : Prop := (ok = true ∧ Val n ∧ p = decS n) ∨ (ok = false ∧ n = 0 ∧ ∀ k, Val k → p ≠ decS k)
theorem part_any (p : ByteArray) : ∃ n ok, PartR p n ok := by
  by_cases h : ∃ n, Val n ∧ p = decS n
  · obtain ⟨n, h1, h2⟩ := h
    exact ⟨n, true, .inl ⟨rfl, h1, h2⟩⟩
  · exact ⟨0, false, .inr ⟨rfl, rfl, fun k hk e => h ⟨k, hk, e⟩⟩⟩
theorem part_spec {p : ByteArray} {n : Int} {ok : Bool} (h : PartR p n ok) (hs : p.size ≤ 1048576) (W : World) :
    Calls Tryd.prog 49 #[.string p] W fun e w' => e = .returned (.tuple #[.int .i64 n, .bool ok]) ∧ Below W.heap.size W w' := by
  rcases h with ⟨rfl, h1, rfl⟩ | ⟨rfl, rfl, h1⟩
  · exact value_yes n W h1
  · exact value_no p W hs h1
theorem part_impl {p : ByteArray} {n : Int} {ok : Bool} (h : PartR p n ok) (hs : p.size ≤ 1048576) {w W : World} (ht : Tabs w) (hB : Below w.heap.size w W) :
    Calls Tryd.prog 15 #[.string p] W fun e w' => e = .returned (.tuple #[.int .i64 n, .bool ok]) ∧ Below W.heap.size W w' := by
  rcases h with ⟨rfl, h1, rfl⟩ | ⟨rfl, rfl, h1⟩
  · exact read_yes n W h1 (ht.on hB)
  · exact read_no p W hs (ht.on hB) h1
theorem none_part {l : List UInt8} {ys : List Int} {p : ByteArray} {n : Int} {r : List (List UInt8)} (hp : PartR p n false) (h : segs l = ys.map Lib.itoa ++ p.data.toList :: r) : ∀ xs, ¬ NumsOf l xs := by
  intro xs ⟨_, h2, h3⟩
  rcases hp with ⟨h4, _⟩ | ⟨_, _, h4⟩
  · cases h4
  · have hm : p.data.toList ∈ xs.map Lib.itoa := by
      rw [← h3, h]
      exact List.mem_append.2 (.inr (List.mem_cons_self ..))
    obtain ⟨x, hx, he⟩ := List.mem_map.1 hm
    exact h4 x (h2 x hx) (ba_ext' (by rw [decS_list, he]))
theorem none_over {l : List UInt8} {ys : List Int} {p : List UInt8} {r : List (List UInt8)} (hy : ys.length = 64) (h : segs l = ys.map Lib.itoa ++ p :: r) : ∀ xs, ¬ NumsOf l xs := by
  intro xs ⟨h1, _, h3⟩
  have := congrArg List.length (h3.symm.trans h)
  simp at this
  omega
theorem nums_next {l : List UInt8} {ys : List Int} {p : ByteArray} {n : Int} {r : List (List UInt8)} (hp : PartR p n true) (h : segs l = ys.map Lib.itoa ++ p.data.toList :: r) : Val n ∧ segs l = (ys ++ [n]).map Lib.itoa ++ r := by
  rcases hp with ⟨_, h2, rfl⟩ | ⟨h4, _⟩
  · refine ⟨h2, ?_⟩
    rw [h, decS_list]
    simp
  · cases h4
/-- where the walk stands: the numbers so far, where the part under way begins, the place -/
def St (l : List UInt8) (ys : List Int) (f i : Nat) : Prop := f ≤ i ∧ i ≤ l.length ∧ segs l = ys.map Lib.itoa ++ segs (l.drop f) ∧ Plain ((l.drop f).take (i - f))
theorem St.begin (l : List UInt8) : St l [] 0 0 := ⟨Nat.le_refl _, Nat.zero_le _, by simp, by intro b hb; simp at hb⟩
theorem St.go {l : List UInt8} {ys : List Int} {f i : Nat} (h : St l ys f i) {c : UInt8} (hb : l[i]? = some c) (hc : c ≠ 44) : St l ys f (i + 1) :=
  ⟨Nat.le_succ_of_le h.1, (List.getElem?_eq_some_iff.1 hb).1, h.2.2.1, plain_step l f i h.1 c hb hc h.2.2.2⟩
theorem St.cut {l : List UInt8} {ys : List Int} {f i : Nat} (h : St l ys f i) (hb : l[i]? = some 44) : segs l = ys.map Lib.itoa ++ (l.drop f).take (i - f) :: segs (l.drop (i + 1)) := by
  rw [h.2.2.1, seg_cut l f i h.1 hb h.2.2.2]
theorem St.last {l : List UInt8} {ys : List Int} {f i : Nat} (h : St l ys f i) (hb : i = l.length) : segs l = ys.map Lib.itoa ++ (l.drop f).take (i - f) :: [] := by
  have e : (l.drop f).take (i - f) = l.drop f := List.take_of_length_le (by rw [List.length_drop]; omega)
  have hp := h.2.2.2
  rw [e] at hp
  rw [h.2.2.1, segs_last _ hp, e]
theorem St.new {l : List UInt8} {ys : List Int} {i : Nat} (hi : i < l.length) (h : segs l = ys.map Lib.itoa ++ segs (l.drop (i + 1))) : St l ys (i + 1) (i + 1) :=
  ⟨Nat.le_refl _, hi, h, by intro b hb; simp at hb⟩
theorem own_anyL {w : World} {B : Nat} {e : TypeId} {size n : Nat} {v : Value} {xs : List Value} (h : w.ownsRow B e size v n xs) : ∃ b cp, v = .slice b n cp := by
  rcases h with ⟨_, ⟨rfl, h0⟩ | ⟨g, cap, cur, rfl, _⟩⟩
  · exact ⟨none, 0, by rw [h0]⟩
  · exact ⟨_, _, rfl⟩
theorem none_list : (⟨#[110, 111, 110, 101]⟩ : ByteArray).toList = [110, 111, 110, 101] := by rw [ByteArray.toList_eq]

set_option maxRecDepth 8000 in
theorem l01Numbers_any (s : ByteArray) (w : World) (hs : s.size ≤ 1048576) (hn : s ≠ ⟨#[110, 111, 110, 101]⟩) :
    Calls Tryd.prog 56 #[.string s] w fun e w' => (∃ v xs, e = .returned (.tuple #[v, .bool true]) ∧ NumsOf s.data.toList xs ∧ SL w.heap.size w'.heap.size w' v xs ∧ Below w.heap.size w w') ∨ (e = .returned (.tuple #[.slice none 0 0, .bool false]) ∧ (∀ xs, ¬ NumsOf s.data.toList xs) ∧ Below w.heap.size w w') := by
  obtain ⟨i0, hi, hz0, hz1, hz2⟩ := info_parts Tryd.info2
  obtain ⟨l, hl⟩ : ∃ l, s.data.toList = l := ⟨_, rfl⟩
  have hll : l.length = s.size := by rw [← hl]; exact Array.length_toList
  have HE : Hid (∀ f i, (s.extract f i).data.toList = (l.drop f).take (i - f)) := fun f i => by rw [← hl]; exact extract_list s f i
  have HG : Hid (∀ k, (h : k < s.size) → l[k]? = some (s[k]'h)) := fun k h => by
    have h2 : k < s.data.toList.length := by rw [Array.length_toList]; exact h
    rw [← hl, List.getElem?_eq_getElem h2, Array.getElem_toList]
    rfl
  have HLL := Lib.hid hll
  have q1 : (s.toList == [110, 111, 110, 101]) = false := by
    rw [← none_list]
    exact ne_str hn
  have HB0 : Hid (Below w.heap.size w (w.alloc (.cells #[] 2))) := (Below.refl _ _).alloc (Nat.le_refl _) _
  have HW0 := Lib.hid (ownsRow_empty w 2 1)
  have HS0 := Lib.hid (St.begin l)
  rw [hl]
  clear hl hn hll
  go_enter Tryd.func56, Tryd.ntmps56
  go_wp2
  go_loopw [4, 5, 6] (fun ov fv iv wr => ∃ (f i : Nat) (ys : List Int), fv = .int .i64 f ∧ iv = .int .i64 i ∧ ys.length ≤ 64 ∧ Hid (AllV ys) ∧ i ≤ s.size + 1 ∧ f ≤ i ∧ Hid ((i ≤ s.size → St l ys f i) ∧ (i = s.size + 1 → segs l = ys.map Lib.itoa)) ∧ Hid (wr.ownsRow w.heap.size 2 1 ov ys.length (ys.map (Value.int .i64))) ∧ Hid (Below w.heap.size w wr)) (fun _ _ iv _ => s.size + 2 - (intOf iv).toNat)
  case atStart => exact ⟨0, 0, [], rfl, rfl, Nat.zero_le _, fun x hx => by simp at hx, by omega, Nat.le_refl _, ⟨fun _ => HS0.out, fun h => by omega⟩, HW0, HB0⟩
  case round =>
    obtain ⟨f, i, ys, rfl, rfl, hy, HV, hi1, hfi, HS, HW, HB⟩ := hrel
    clear HW0 HB0 HS0
    by_cases his : i ≤ s.size
    · have k1 : decide ((i : Int) ≤ (s.size : Int)) = true := by simp; omega
      have HS1 := Lib.hid (HS.out.1 his)
      clear HS
      by_cases hlt : i < s.size
      · have k2 : decide ((i : Int) < (s.size : Int)) = true := by simp; omega
        have k3 : (i : Int) < (s.size : Int) := by omega
        by_cases h44 : (s[i]'hlt).toNat = 44
        · have k4 : (((s[i]'hlt).toNat : Int) != 44) = false := by simp [h44]
          have HC : Hid (segs l = ys.map Lib.itoa ++ (s.extract f i).data.toList :: segs (l.drop (i + 1))) := by
            unfold Hid
            rw [HE.out]
            exact HS1.out.cut (by rw [HG.out i hlt]; congr 1; exact UInt8.toNat_inj.1 h44)
          have HNEW : Hid (∀ zs : List Int, segs l = zs.map Lib.itoa ++ segs (l.drop (i + 1)) → (i + 1 ≤ s.size → St l zs (i + 1) (i + 1)) ∧ (i + 1 = s.size + 1 → segs l = zs.map Lib.itoa)) := fun zs h => ⟨fun _ => St.new (by rw [HLL.out]; exact hlt) h, fun e => by omega⟩
          have k5 : (f : Int) ≤ (i : Int) := by omega
          have k6 : (i : Int) ≤ (s.size : Int) := by omega
          obtain ⟨p, hp⟩ : ∃ p, s.extract f i = p := ⟨_, rfl⟩
          have hps : p.size ≤ 1048576 := by rw [← hp, ByteArray.size_extract]; omega
          rw [hp] at HC
          obtain ⟨n, ok, hr⟩ := part_any p
          have HR := Lib.hid hr
          have HP : Hid (∀ W, Calls Tryd.prog 49 #[.string p] W fun e w' => e = .returned (.tuple #[.int .i64 n, .bool ok]) ∧ Below W.heap.size W w') := fun W => part_spec hr hps W
          clear hr HS1 hps h44
          cases ok with
          | false =>
            have HN := Lib.hid (none_part HR.out HC.out)
            clear HC HNEW HR
            go_wp2_with (go_at_call 49; with_reducible refine (HP.out _).mono ?_; rintro e w1 ⟨rfl, hb⟩)
            have HB2 := Lib.hid (HB.out.trans (hb.mono HB.out.size))
            clear hb HB HW
            go_ret2
            exact .inr ⟨rfl, HN.out, HB2.out⟩
          | true =>
            obtain ⟨b, cb, rfl⟩ := own_anyL HW.out
            by_cases h64 : ys.length = 64
            · have t1 : ((ys.length : Int) == 64) = true := by simp; omega
              have HN := Lib.hid (none_over h64 HC.out)
              obtain ⟨m, hm⟩ : ∃ m, ys.length = m := ⟨_, rfl⟩
              rw [hm] at t1 ⊢
              clear HC HNEW HR h64 HW hm hy
              go_wp2_with (go_at_call 49; with_reducible refine (HP.out _).mono ?_; rintro e w1 ⟨rfl, hb⟩)
              have HB2 := Lib.hid (HB.out.trans (hb.mono HB.out.size))
              clear hb HB
              go_ret2
              exact .inr ⟨rfl, HN.out, HB2.out⟩
            · have t1 : ((ys.length : Int) == 64) = false := by rw [beq_eq_false_iff_ne]; omega
              have hy2 : (ys ++ [n]).length ≤ 64 := by simp; omega
              obtain ⟨hv, hnx⟩ := nums_next HR.out HC.out
              have HV2 := Lib.hid (HV.out.next hv)
              have HX := Lib.hid (HNEW.out _ hnx)
              have HLEN : Hid ((ys ++ [n]).length = ys.length + 1) := by unfold Hid; simp
              have HMAP : Hid ((ys ++ [n]).map (Value.int .i64) = ys.map (Value.int .i64) ++ [Value.int .i64 n]) := by unfold Hid; simp
              clear HC HNEW HR h64 hv hnx
              go_wp2_with (first | (go_at_call 49; with_reducible refine (HP.out _).mono ?_; rintro e w1 ⟨rfl, hb⟩; have hown := own_belowO HW.out hb; have HB2 := Lib.hid (HB.out.trans (hb.mono HB.out.size)); have hz := HB2.out.size; clear hb HB HW) | (at_builtin; refine wpList_append_own _ rfl _ _ 27 rfl w.heap.size 2 i0 (.int .i64 0) 1 8 Tryd.underlying27 hi hz0 hz1 hz2 rfl (by decide) _ _ _ rfl (hown.alloc _) ⟨w1.heap.size, 0, none⟩ 1 1 [.int .i64 n] rfl rfl (cell_one_new _ _ _) (by intro u hu; simp at hu; subst hu; rfl) (by unfold maxLen; omega) (by omega) (by simp; omega) ?_; intro v1 w4 hown1 hgrow hiff; clear hiff))
              have HB4 : Hid (Below w.heap.size w w4) := (HB2.out.alloc hz _).grown hgrow (by simp; omega) (own_block hown)
              have HW4 : Hid (w4.ownsRow w.heap.size 2 1 v1 (ys ++ [n]).length ((ys ++ [n]).map (Value.int .i64))) := by
                unfold Hid
                rw [HLEN.out, HMAP.out]
                simpa using hown1
              clear hown1 hgrow hown HB2 t1
              go_roundw
              case rel => exact ⟨i + 1, i + 1, ys ++ [n], by go_num, by go_num, hy2, HV2, by omega, Nat.le_refl _, HX, HW4, HB4⟩
              case measure => simp [intOf]; omega
        · have k4 : (((s[i]'hlt).toNat : Int) != 44) = true := by simp; omega
          have HS2 := Lib.hid (HS1.out.go (HG.out i hlt) (fun e => h44 (by rw [e]; rfl)))
          clear h44 HS1
          go_wp2
          go_roundw
          case rel => exact ⟨f, i + 1, ys, rfl, by go_num, hy, HV, by omega, by omega, ⟨fun _ => HS2.out, fun e => by omega⟩, HW, HB⟩
          case measure => simp [intOf]; omega
      · have k2 : decide ((i : Int) < (s.size : Int)) = false := by simp; omega
        have k3 : ¬ (i : Int) < (s.size : Int) := by omega
        have HC : Hid (segs l = ys.map Lib.itoa ++ (s.extract f i).data.toList :: []) := by
          unfold Hid
          rw [HE.out]
          exact HS1.out.last (by rw [HLL.out]; omega)
        have HNEW : Hid (∀ zs : List Int, segs l = zs.map Lib.itoa ++ [] → (i + 1 ≤ s.size → St l zs (i + 1) (i + 1)) ∧ (i + 1 = s.size + 1 → segs l = zs.map Lib.itoa)) := fun zs h => ⟨fun _ => by omega, fun _ => by simpa using h⟩
        have k5 : (f : Int) ≤ (i : Int) := by omega
        have k6 : (i : Int) ≤ (s.size : Int) := by omega
        obtain ⟨p, hp⟩ : ∃ p, s.extract f i = p := ⟨_, rfl⟩
        have hps : p.size ≤ 1048576 := by rw [← hp, ByteArray.size_extract]; omega
        rw [hp] at HC
        obtain ⟨n, ok, hr⟩ := part_any p
        have HR := Lib.hid hr
        have HP : Hid (∀ W, Calls Tryd.prog 49 #[.string p] W fun e w' => e = .returned (.tuple #[.int .i64 n, .bool ok]) ∧ Below W.heap.size W w') := fun W => part_spec hr hps W
        clear hr HS1 hps
        cases ok with
        | false =>
          have HN := Lib.hid (none_part HR.out HC.out)
          clear HC HNEW HR
          go_wp2_with (go_at_call 49; with_reducible refine (HP.out _).mono ?_; rintro e w1 ⟨rfl, hb⟩)
          have HB2 := Lib.hid (HB.out.trans (hb.mono HB.out.size))
          clear hb HB HW
          go_ret2
          exact .inr ⟨rfl, HN.out, HB2.out⟩
        | true =>
          obtain ⟨b, cb, rfl⟩ := own_anyL HW.out
          by_cases h64 : ys.length = 64
          · have t1 : ((ys.length : Int) == 64) = true := by simp; omega
            have HN := Lib.hid (none_over h64 HC.out)
            obtain ⟨m, hm⟩ : ∃ m, ys.length = m := ⟨_, rfl⟩
            rw [hm] at t1 ⊢
            clear HC HNEW HR h64 HW hm hy
            go_wp2_with (go_at_call 49; with_reducible refine (HP.out _).mono ?_; rintro e w1 ⟨rfl, hb⟩)
            have HB2 := Lib.hid (HB.out.trans (hb.mono HB.out.size))
            clear hb HB
            go_ret2
            exact .inr ⟨rfl, HN.out, HB2.out⟩
          · have t1 : ((ys.length : Int) == 64) = false := by rw [beq_eq_false_iff_ne]; omega
            have hy2 : (ys ++ [n]).length ≤ 64 := by simp; omega
            obtain ⟨hv, hnx⟩ := nums_next HR.out HC.out
            have HV2 := Lib.hid (HV.out.next hv)
            have HX := Lib.hid (HNEW.out _ hnx)
            have HLEN : Hid ((ys ++ [n]).length = ys.length + 1) := by unfold Hid; simp
            have HMAP : Hid ((ys ++ [n]).map (Value.int .i64) = ys.map (Value.int .i64) ++ [Value.int .i64 n]) := by unfold Hid; simp
            clear HC HNEW HR h64 hv hnx
            go_wp2_with (first | (go_at_call 49; with_reducible refine (HP.out _).mono ?_; rintro e w1 ⟨rfl, hb⟩; have hown := own_belowO HW.out hb; have HB2 := Lib.hid (HB.out.trans (hb.mono HB.out.size)); have hz := HB2.out.size; clear hb HB HW) | (at_builtin; refine wpList_append_own _ rfl _ _ 27 rfl w.heap.size 2 i0 (.int .i64 0) 1 8 Tryd.underlying27 hi hz0 hz1 hz2 rfl (by decide) _ _ _ rfl (hown.alloc _) ⟨w1.heap.size, 0, none⟩ 1 1 [.int .i64 n] rfl rfl (cell_one_new _ _ _) (by intro u hu; simp at hu; subst hu; rfl) (by unfold maxLen; omega) (by omega) (by simp; omega) ?_; intro v1 w4 hown1 hgrow hiff; clear hiff))
            have HB4 : Hid (Below w.heap.size w w4) := (HB2.out.alloc hz _).grown hgrow (by simp; omega) (own_block hown)
            have HW4 : Hid (w4.ownsRow w.heap.size 2 1 v1 (ys ++ [n]).length ((ys ++ [n]).map (Value.int .i64))) := by
              unfold Hid
              rw [HLEN.out, HMAP.out]
              simpa using hown1
            clear hown1 hgrow hown HB2 t1
            go_roundw
            case rel => exact ⟨i + 1, i + 1, ys ++ [n], by go_num, by go_num, hy2, HV2, by omega, Nat.le_refl _, HX, HW4, HB4⟩
            case measure => simp [intOf]; omega
    · have k1 : decide ((i : Int) ≤ (s.size : Int)) = false := by simp; omega
      obtain ⟨b, cb, rfl⟩ := own_anyL HW.out
      have HF := Lib.hid (HS.out.2 (by omega))
      have HL := Lib.hid (SL.of_own HW.out)
      clear HS HW
      go_wp2
      go_ret2
      exact .inl ⟨_, ys, rfl, ⟨hy, HV.out, HF.out⟩, HL.out, HB.out⟩
end Go.Proofs.YtpnifnpbolieoabDoor
