/- Texts of congruences: impl.CongruenceText, spec.l03Text, spec.CongruenceText, and the law FnExactCongruenceText. -/
import Derived.Test.YtpnifnpbolieoabDoorCon
import Derived.Test.YtpnifnpbolieoabDoorListText
import Derived.Test.YtpnifnpbolieoabDoorQTail
import Derived.Test.YtpnifnpbolieoabDoorCycA
namespace Go.Proofs.YtpnifnpbolieoabDoor
open Go.RowKit Go.PlainAid
set_option maxHeartbeats 1600000

theorem con_list {m a c : Int} (h : ConP m a c) : ListP [m, a, c] := ⟨by simp, fun i x hi hx => by
  obtain ⟨⟨m0, m1⟩, ⟨a0, a1⟩, c0, c1⟩ := h
  match i, hx with
  | 0, hx => obtain rfl : m = x := by simpa using hx
             exact ⟨by omega, by omega⟩
  | 1, hx => obtain rfl : a = x := by simpa using hx
             exact ⟨by omega, by omega⟩
  | 2, hx => obtain rfl : c = x := by simpa using hx
             exact ⟨by omega, by omega⟩
  | n + 3, hx => simp at hx⟩
theorem con_text (m a c : Int) : listT [m, a, c] = decS m ++ (⟨#[44]⟩ : ByteArray) ++ decS a ++ (⟨#[44]⟩ : ByteArray) ++ decS c := by
  unfold listT
  rw [if_neg (by simp)]
  show txt [m, a, c] (2 + 1) = _
  rw [txt_next (x := c) rfl (by decide)]
  show txt [m, a, c] (1 + 1) ++ _ ++ _ = _
  rw [txt_next (x := a) rfl (by decide), txt_first (x := m) rfl]

theorem l03Text_any (g : Nat) (m a c : Int) (w : World) (h : ConP m a c) (h0 : w.cell? ⟨g, 0, none⟩ = some (.int .i64 m)) (h1 : w.cell? ⟨g, 1, none⟩ = some (.int .i64 a)) (h2 : w.cell? ⟨g, 2, none⟩ = some (.int .i64 c)) :
    Calls Tryd.prog 64 #[.pointer (some ⟨g, 0, none⟩)] w fun e w' => e = .returned (.string (listT [m, a, c])) ∧ Below w.heap.size w w' := by
  have hl := con_list h
  have vm : Val m := hl.get (i := 0) rfl
  have va : Val a := hl.get (i := 1) rfl
  have vc : Val c := hl.get (i := 2) rfl
  have HN : Hid (∀ W : World, Calls Tryd.prog 47 #[.int .i64 m] W fun e w' => e = .returned (.string (decS m)) ∧ Below W.heap.size W w') := fun W => l01Dec_any m W vm.i64.1 vm.i64.2
  have HA : Hid (∀ W : World, Calls Tryd.prog 47 #[.int .i64 a] W fun e w' => e = .returned (.string (decS a)) ∧ Below W.heap.size W w') := fun W => l01Dec_any a W va.i64.1 va.i64.2
  have HC : Hid (∀ W : World, Calls Tryd.prog 47 #[.int .i64 c] W fun e w' => e = .returned (.string (decS c)) ∧ Below W.heap.size W w') := fun W => l01Dec_any c W vc.i64.1 vc.i64.2
  have HX := Lib.hid (con_text m a c)
  have l1 := decV_size vm
  have l2 := decV_size va
  have l3 := decV_size vc
  obtain ⟨tm, htm⟩ : ∃ t, decS m = t := ⟨_, rfl⟩
  obtain ⟨ta, hta⟩ : ∃ t, decS a = t := ⟨_, rfl⟩
  obtain ⟨tc, htc⟩ : ∃ t, decS c = t := ⟨_, rfl⟩
  rw [htm, hta, htc] at HX
  rw [htm] at HN l1
  rw [hta] at HA l2
  rw [htc] at HC l3
  have l44 : (⟨#[44]⟩ : ByteArray).size = 1 := rfl
  obtain ⟨t1, ht1⟩ : ∃ t, tm ++ (⟨#[44]⟩ : ByteArray) = t := ⟨_, rfl⟩
  have s1 : t1.size ≤ 21 := by rw [← ht1, ByteArray.size_append, l44]; omega
  have e1 : ∀ W : World, (Op.stringOp .add tm ⟨#[44]⟩).run Tryd.prog W = .ok (.string t1) W := fun W => by rw [← ht1]; exact run_string_add_sum W _ _ (by rw [l44]; omega)
  obtain ⟨t2, ht2⟩ : ∃ t, t1 ++ ta = t := ⟨_, rfl⟩
  have s2 : t2.size ≤ 41 := by rw [← ht2, ByteArray.size_append]; omega
  have e2 : ∀ W : World, (Op.stringOp .add t1 ta).run Tryd.prog W = .ok (.string t2) W := fun W => by rw [← ht2]; exact run_string_add_sum W _ _ (by omega)
  obtain ⟨t3, ht3⟩ : ∃ t, t2 ++ (⟨#[44]⟩ : ByteArray) = t := ⟨_, rfl⟩
  have s3 : t3.size ≤ 42 := by rw [← ht3, ByteArray.size_append, l44]; omega
  have e3 : ∀ W : World, (Op.stringOp .add t2 ⟨#[44]⟩).run Tryd.prog W = .ok (.string t3) W := fun W => by rw [← ht3]; exact run_string_add_sum W _ _ (by rw [l44]; omega)
  obtain ⟨t4, ht4⟩ : ∃ t, t3 ++ tc = t := ⟨_, rfl⟩
  have e4 : ∀ W : World, (Op.stringOp .add t3 tc).run Tryd.prog W = .ok (.string t4) W := fun W => by rw [← ht4]; exact run_string_add_sum W _ _ (by omega)
  rw [ht1, ht2, ht3, ht4] at HX
  have K0 : ∀ q : GW w, q.w.cell? ⟨g, 0, none⟩ = some (.int .i64 m) := fun q => cell_below h0 q.h
  have K1 : ∀ q : GW w, q.w.cell? ⟨g, 1, none⟩ = some (.int .i64 a) := fun q => cell_below h1 q.h
  have K2 : ∀ q : GW w, q.w.cell? ⟨g, 2, none⟩ = some (.int .i64 c) := fun q => cell_below h2 q.h
  have hmx : Tryd.prog.follows .mixedOrders = true := by kernel_rfl
  clear h hl vm va vc h0 h1 h2 htm hta htc ht1 ht2 ht3 ht4 l44
  go_enter Tryd.func64, Tryd.ntmps64
  go_wp2
  refine wp_region_quiet_tail (C := fun w' => ∃ q : GW w, w' = q.w) 19 hmx (by kernel_rfl) ⟨⟨w.drew, (Below.refl _ _).drew⟩, rfl⟩ ?_
  simp only [List.take_succ_cons, List.take_zero, List.drop_succ_cons, List.drop_zero]
  repeat (quiet_step (first | with_reducible exact gw_call (HN.out _) | with_reducible exact gw_call (HA.out _) | with_reducible exact gw_call (HC.out _)))
  refine wpQuiet_nil ?_
  rintro W2 ⟨⟨_, hW2⟩, rfl⟩
  clear K0 K1 K2
  have B2 := Lib.hid hW2
  clear hW2
  go_wp2
  go_ret
  exact ⟨by rw [HX.out]; rfl, B2.out⟩

theorem conText_yes (m a c : Int) (w : World) (h : ConP m a c) (ht : Pow10 w.heap.size w) :
    Calls Tryd.prog 32 #[.agg #[.int .i64 m, .int .i64 a, .int .i64 c]] w fun e w' => e = .returned (.tuple #[.string (listT [m, a, c]), .bool true]) ∧ Below w.heap.size w w' := by
  have HV : Hid (∀ W : World, Calls Tryd.prog 65 #[.agg #[.int .i64 m, .int .i64 a, .int .i64 c]] W fun e w' => e = .returned (.bool true) ∧ Below W.heap.size W w') := fun W => validK_b m a c true W (decide_eq_true h)
  have HL := Lib.hid (con_list h)
  have HT : Hid (Pow10 w.heap.size w) := ht
  clear h ht
  go_enter Tryd.func32, Tryd.ntmps32
  go_wp2_with fail
  have K := KAt.new w (.int .i64 m) (.int .i64 a) (.int .i64 c) 48
  generalize w.alloc (.cells #[.int .i64 m, .int .i64 a, .int .i64 c] 48) = w0 at K ⊢
  refine (HV.out _).mono ?_
  rintro e w1 ⟨rfl, hb⟩
  have KB := Lib.hid (K.below hb)
  clear hb K
  obtain ⟨x0, x1, x2, _⟩ := KB.out
  go_wp2_with fail
  have hB2 : Below w.heap.size w (w1.alloc (.cells #[.int .i64 m, .int .i64 a, .int .i64 c] 2)) := KB.out.all.alloc KB.out.all.size _
  have r0 : RO (w1.alloc (.cells #[.int .i64 m, .int .i64 a, .int .i64 c] 2)).heap.size (w1.alloc (.cells #[.int .i64 m, .int .i64 a, .int .i64 c] 2)) (some ⟨w1.heap.size, 0, none⟩) [m, a, c] := fun i x hx => by
    refine ⟨w1.heap.size, 0, rfl, by simp, ?_⟩
    match i, hx with
    | 0, hx => obtain rfl : m = x := by simpa using hx
               simp [go_sem]
    | 1, hx => obtain rfl : a = x := by simpa using hx
               simp [go_sem]
    | 2, hx => obtain rfl : c = x := by simpa using hx
               simp [go_sem]
    | n + 3, hx => simp at hx
  refine (implLText_yes _ 3 3 [m, a, c] _ r0 rfl HL.out (HT.out.go hB2)).mono ?_
  rintro e w3 ⟨rfl, hb⟩
  have B3 := Lib.hid (hB2.trans (hb.mono hB2.size))
  clear hb hB2 r0
  go_wp2
  go_ret2
  exact ⟨rfl, B3.out⟩
theorem conText_no (m a c : Int) (w : World) (h : ¬ ConP m a c) :
    Calls Tryd.prog 32 #[.agg #[.int .i64 m, .int .i64 a, .int .i64 c]] w fun e w' => e = .returned (.tuple #[.string ⟨#[]⟩, .bool false]) ∧ Below w.heap.size w w' := by
  have HV : Hid (∀ W : World, Calls Tryd.prog 65 #[.agg #[.int .i64 m, .int .i64 a, .int .i64 c]] W fun e w' => e = .returned (.bool false) ∧ Below W.heap.size W w') := fun W => validK_b m a c false W (decide_eq_false h)
  clear h
  go_enter Tryd.func32, Tryd.ntmps32
  go_wp2_with fail
  have K := KAt.new w (.int .i64 m) (.int .i64 a) (.int .i64 c) 48
  generalize w.alloc (.cells #[.int .i64 m, .int .i64 a, .int .i64 c] 48) = w0 at K ⊢
  refine (HV.out _).mono ?_
  rintro e w1 ⟨rfl, hb⟩
  have KB := Lib.hid (K.below hb)
  clear hb K
  go_wp2
  go_ret2
  exact ⟨rfl, KB.out.all⟩
theorem specCText_yes (m a c : Int) (w : World) (h : ConP m a c) :
    Calls Tryd.prog 30 #[.agg #[.int .i64 m, .int .i64 a, .int .i64 c]] w fun e w' => e = .returned (.tuple #[.string (listT [m, a, c]), .bool true]) ∧ Below w.heap.size w w' := by
  have H := Lib.hid h
  clear h
  go_enter Tryd.func30, Tryd.ntmps30
  go_wp2_with fail
  have K := KAt.new w (.int .i64 m) (.int .i64 a) (.int .i64 c) 48
  generalize w.alloc (.cells #[.int .i64 m, .int .i64 a, .int .i64 c] 48) = w0 at K ⊢
  refine (l03Is_b _ m a c true w0 K.1 K.2.1 K.2.2.1 (decide_eq_true H.out)).mono ?_
  rintro e w1 ⟨rfl, n1, rfl⟩
  have KB := Lib.hid (K.drewN n1)
  clear K
  go_wp2_with fail
  refine (l03Text_any _ m a c _ H.out KB.out.1 KB.out.2.1 KB.out.2.2.1).mono ?_
  rintro e w2 ⟨rfl, hb⟩
  have K2 := Lib.hid (KB.out.below hb)
  clear hb KB
  go_wp2
  go_ret2
  exact ⟨rfl, K2.out.all⟩
theorem specCText_no (m a c : Int) (w : World) (h : ¬ ConP m a c) :
    Calls Tryd.prog 30 #[.agg #[.int .i64 m, .int .i64 a, .int .i64 c]] w fun e w' => e = .returned (.tuple #[.string ⟨#[]⟩, .bool false]) ∧ Below w.heap.size w w' := by
  have H := Lib.hid h
  clear h
  go_enter Tryd.func30, Tryd.ntmps30
  go_wp2_with fail
  have K := KAt.new w (.int .i64 m) (.int .i64 a) (.int .i64 c) 48
  generalize w.alloc (.cells #[.int .i64 m, .int .i64 a, .int .i64 c] 48) = w0 at K ⊢
  refine (l03Is_b _ m a c false w0 K.1 K.2.1 K.2.2.1 (decide_eq_false H.out)).mono ?_
  rintro e w1 ⟨rfl, n1, rfl⟩
  have KB := Lib.hid (K.drewN n1)
  clear K
  go_wp2
  go_ret2
  exact ⟨rfl, KB.out.all⟩
theorem lawCText_core (m a c : Int) (t : ByteArray) (ok : Bool) (w : World)
    (S : Hid (∀ W : World, Below w.heap.size w W → Calls Tryd.prog 30 #[.agg #[.int .i64 m, .int .i64 a, .int .i64 c]] W fun e w' => e = .returned (.tuple #[.string t, .bool ok]) ∧ Below W.heap.size W w'))
    (I : Hid (∀ W : World, Below w.heap.size w W → Calls Tryd.prog 32 #[.agg #[.int .i64 m, .int .i64 a, .int .i64 c]] W fun e w' => e = .returned (.tuple #[.string t, .bool ok]) ∧ Below W.heap.size W w')) :
    Calls Tryd.prog 9 #[.agg #[.int .i64 m, .int .i64 a, .int .i64 c]] w fun e w' => e = .returned (.bool true) ∧ Below w.heap.size w w' := by
  have hne : (t.toList == t.toList) = true := by simp
  have hne2 : (ok != ok) = false := by simp
  go_enter Tryd.func9, Tryd.ntmps9
  go_wp2_with fail
  have K := KAt.new w (.int .i64 m) (.int .i64 a) (.int .i64 c) 46
  generalize w.alloc (.cells #[.int .i64 m, .int .i64 a, .int .i64 c] 46) = w0 at K ⊢
  refine (toCon_any _ _ _ _).mono ?_
  rintro e w1 ⟨rfl, hb⟩
  have K1 := K.below hb
  clear hb K
  go_wp2_with fail
  refine (S.out _ K1.all).mono ?_
  rintro e w2 ⟨rfl, hb⟩
  have K2 := Lib.hid (K1.below hb)
  clear hb K1
  obtain ⟨x0, x1, x2, _⟩ := K2.out
  go_wp2_with fail
  refine (toCon_any _ _ _ _).mono ?_
  rintro e w3 ⟨rfl, hb⟩
  have K3 := K2.out.below hb
  clear hb K2 x0 x1 x2
  go_wp2_with fail
  refine (I.out _ K3.all).mono ?_
  rintro e w4 ⟨rfl, hb⟩
  have K4 := Lib.hid (K3.below hb)
  clear hb K3
  go_wp2
  go_ret
  exact ⟨rfl, K4.out.all⟩
theorem lawCText (m a c : Int) (w : World) (ht : Pow10 w.heap.size w) :
    Calls Tryd.prog 9 #[.agg #[.int .i64 m, .int .i64 a, .int .i64 c]] w fun e w' => e = .returned (.bool true) ∧ Below w.heap.size w w' := by
  by_cases h : ConP m a c
  · exact lawCText_core m a c (listT [m, a, c]) true w (fun W _ => specCText_yes m a c W h) (fun W hW => conText_yes m a c W h (ht.go hW))
  · exact lawCText_core m a c ⟨#[]⟩ false w (fun W _ => specCText_no m a c W h) (fun W _ => conText_no m a c W h)
end Go.Proofs.YtpnifnpbolieoabDoor
