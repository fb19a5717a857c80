/- Slices of texts: what is known of one that came in; laws.szStringS, toStringS, eqStringS. -/
import Derived.Test.YtgpcacbjmjpdnabBytes
import Derived.Test.YtgpcacbjmjpdnabGT
import Derived.Deep.QuietTactic
import Derived.BigQuiet
namespace Go.Proofs.Ytgpcacbjmjpdnab
open Go.RowKit Go.PlainAid
set_option maxHeartbeats 800000

/-- a slice of texts that came in -/
def StrIn (w : World) (a : Option Addr) (len : Nat) (zs : List ByteArray) : Prop :=
  (a = none ∧ len = 0) ∨
  ∃ x, a = some x ∧ len ≤ zs.length ∧ zs.length ≤ maxLen ∧ (∀ i, i < zs.length → w.cell? (x.add i) = some (.string (zs.getD i ByteArray.empty))) ∧ ∀ s ∈ zs, s.size ≤ maxLen
/-- a slice of texts that is only read -/
def RS (top : Nat) (w : World) (a : Option Addr) (xs : List ByteArray) : Prop := ∀ i x, xs[i]? = some x → ∃ g off, a = some ⟨g, off, none⟩ ∧ g < top ∧ w.cell? ⟨g, off + i, none⟩ = some (.string x)
theorem RS.below {top : Nat} {w w1 : World} {a : Option Addr} {xs : List ByteArray} (h : RS top w a xs) (hb : Below top w w1) : RS top w1 a xs := fun i x hx => by
  obtain ⟨g, off, ha, hg, hc⟩ := h i x hx
  exact ⟨g, off, ha, hg, (hb.cell (p := ⟨g, off + i, none⟩) hg).trans hc⟩
theorem RS.up {top top' : Nat} {w : World} {a : Option Addr} {xs : List ByteArray} (h : RS top w a xs) (ht : top ≤ top') : RS top' w a xs := fun i x hx => by
  obtain ⟨g, off, ha, hg, hc⟩ := h i x hx
  exact ⟨g, off, ha, by omega, hc⟩
theorem StrIn.rs {w : World} {a : Option Addr} {n : Nat} {zs : List ByteArray} (h : StrIn w a n zs) : ∃ xs : List ByteArray, xs.length = n ∧ RS w.heap.size w a xs ∧ n ≤ maxLen ∧ ∀ s ∈ xs, s.size ≤ maxLen := by
  rcases h with ⟨_, rfl⟩ | ⟨⟨b, off, spot⟩, rfl, h1, h2, h3, h4⟩
  · exact ⟨[], rfl, fun i x hx => by simp at hx, by unfold maxLen; omega, fun s hs => by simp at hs⟩
  · refine ⟨zs.take n, by simp; omega, fun i x hx => ?_, by omega, fun s hs => h4 s (List.mem_of_mem_take hs)⟩
    obtain ⟨hi, hx⟩ := List.getElem?_eq_some_iff.1 hx
    have hin : i < n := by simp at hi; omega
    have hiz : i < zs.length := by omega
    have hc := h3 i hiz
    have hspot : spot = none := by
      have h0 := h3 0 (by omega)
      simpa [Addr.add] using World.cell?_spot h0
    subst hspot
    have e : zs.getD i ByteArray.empty = x := by
      rw [← hx]
      simp [List.getD_eq_getElem?_getD, hiz]
    rw [e, Go.WideShapes.add_plain] at hc
    exact ⟨b, off, rfl, by have := World.block_lt_of_cell? w _ hc; exact this, hc⟩
theorem RS.at {top : Nat} {w : World} {a : Option Addr} {xs : List ByteArray} (h : RS top w a xs) {k : Nat} (hk : k < xs.length) : ∃ g off, a = some ⟨g, off, none⟩ ∧ g < top ∧ w.cell? ⟨g, off + k, none⟩ = some (.string xs[k]) := h k xs[k] (List.getElem?_eq_getElem hk)

def SzPost (n : Nat) (xs : List ByteArray) (w : World) (e : Ending) (w' : World) : Prop := ∃ v : Int, e = .returned (.int .i64 v) ∧ -1 ≤ v ∧ (0 ≤ v → n ≤ 1048576 ∧ ∀ s ∈ xs, s.size ≤ 1048576) ∧ w = w'
theorem szS_any (a : Option Addr) (n cap : Nat) (xs : List ByteArray) (w : World) (h : RS w.heap.size w a xs) (hn : xs.length = n) (hm : n ≤ maxLen) (hs : ∀ s ∈ xs, s.size ≤ maxLen) :
    Calls Try.prog 28 #[.slice a n cap, .int .i64 1048576] w (SzPost n xs w) := by
  unfold maxLen at hm
  have HR := Lib.hid h
  have HN := Lib.hid hn
  have HS : Hid (∀ k (hk : k < xs.length), (xs[k]'hk).size ≤ 9223372036854775807) := fun k hk => by
    have := hs _ (List.getElem_mem hk)
    unfold maxLen at this
    omega
  clear h hn hs
  by_cases hl : n ≤ 1048576
  · have t0 : decide ((1048576 : Int) - (n : Int) < 0) = false := by simp; omega
    go_enter Try.func28, Try.ntmps28
    go_wp2
    go_loop [1, 5] (fun lv kv => ∃ (k : Nat) (v : Int), k ≤ n ∧ kv = .int .i64 k ∧ lv = .int .i64 v ∧ 0 ≤ v ∧ v ≤ 1048576 ∧ Hid (∀ i (hi : i < xs.length), i < k → (xs[i]'hi).size ≤ 1048576)) (fun _ kv => n - (intOf kv).toNat)
    case atStart => exact ⟨0, 1048576 - n, Nat.zero_le _, rfl, rfl, by omega, by omega, fun i _ h => by omega⟩
    case round =>
      obtain ⟨k, v, hk, rfl, rfl, hv0, hv1, HG⟩ := hrel
      by_cases hlt : k < n
      · have hkx : k < xs.length := by rw [HN.out]; exact hlt
        obtain ⟨g, off, rfl, hg, hc⟩ := HR.out.at hkx
        have hsz := HS.out k hkx
        have HX : Hid ((xs[k]'hkx).size ≤ 1048576 → ∀ i (hi : i < xs.length), i < k + 1 → (xs[i]'hi).size ≤ 1048576) := fun e i hi h3 => by
          by_cases hik : i = k
          · subst hik; exact e
          · exact HG.out i hi (by omega)
        obtain ⟨x, hxx⟩ : ∃ x, xs[k] = x := ⟨_, rfl⟩
        rw [hxx] at hc hsz HX
        clear hxx hkx HG
        by_cases hle : (x.size : Int) ≤ v
        · go_wp2
          go_round
          case rel => exact ⟨k + 1, v - x.size, by omega, by go_num, rfl, by omega, by omega, HX.out (by omega)⟩
          case measure => simp [intOf]; omega
        · go_wp2
          go_ret
          exact ⟨-1, rfl, by omega, fun h => by omega, rfl⟩
      · obtain rfl : k = n := by omega
        go_wp2
        go_ret
        refine ⟨v, rfl, by omega, fun _ => ⟨hl, fun s hs => ?_⟩, rfl⟩
        obtain ⟨i, hi, rfl⟩ := List.getElem_of_mem hs
        exact HG.out i hi (by have := HN.out; omega)
  · have t0 : decide ((1048576 : Int) - (n : Int) < 0) = true := by simp; omega
    go_enter Try.func28, Try.ntmps28
    go_wp2
    go_ret
    exact ⟨-1, rfl, by omega, fun h => by omega, rfl⟩
theorem Try.info9 : (Try.prog.info? 9).map (fun i => (i.zero, i.size, i.bytes)) = some (some (.string ⟨#[]⟩), 1, 16) := by kernel_rfl
/-- texts, and empty ones behind them -/
def padS (l : List ByteArray) (n : Nat) : List Value := l.map Value.string ++ List.replicate (n - l.length) (.string ⟨#[]⟩)
theorem padS_full (l : List ByteArray) : padS l l.length = l.map Value.string := by simp [padS]
theorem padS_set (l : List ByteArray) (n : Nat) (c : ByteArray) (h : l.length < n) : (padS l n).set l.length (.string c) = padS (l ++ [c]) n := by
  unfold padS
  obtain ⟨m, hm⟩ : ∃ m, n - l.length = m + 1 := ⟨n - l.length - 1, by omega⟩
  have hm2 : n - (l ++ [c]).length = m := by simp; omega
  rw [hm, hm2, List.map_append, List.set_append_right _ _ (by simp)]
  simp [List.replicate_succ]
theorem padS_get (l : List ByteArray) (n : Nat) (h : l.length < n) : (padS l n)[l.length]? = some (.string ⟨#[]⟩) := by
  unfold padS
  obtain ⟨m, hm⟩ : ∃ m, n - l.length = m + 1 := ⟨n - l.length - 1, by omega⟩
  rw [hm, List.getElem?_append_right (by simp)]
  simp [List.replicate_succ]
theorem padS_made (n : Nat) : (madeCells (Value.string ⟨#[]⟩).cells (n * 1)).toList = padS [] n := by
  have : (Value.string ⟨#[]⟩).cells = #[.string ⟨#[]⟩] := rfl
  rw [this, toList_madeCells_one]
  simp [padS]
theorem ownS_step {w : World} {base : Nat} {e : TypeId} {g n cap j : Nat} {l : List ByteArray} (h : w.ownsRow base e 1 (.slice (some ⟨g, 0, none⟩) n cap) n (padS l n)) (hl : l.length = j) (hj : j < n) (c : ByteArray) :
    (w.setCell ⟨g, j, none⟩ (.string c)).ownsRow base e 1 (.slice (some ⟨g, 0, none⟩) n cap) n (padS (l ++ [c]) n) := by
  subst hl
  rw [← padS_set l n c hj]
  exact (h.stored l.length (.string c)).1
theorem ownS_next {w : World} {base : Nat} {e : TypeId} {g n cap j : Nat} {l : List ByteArray} (h : w.ownsRow base e 1 (.slice (some ⟨g, 0, none⟩) n cap) n (padS l n)) (hl : l.length = j) (hj : j < n) :
    w.cell? ⟨g, j, none⟩ = some (.string ⟨#[]⟩) ∧ w.frozen? ⟨g, j, none⟩ = false := by
  subst hl
  refine ⟨?_, h.frozenAt _⟩
  rw [h.cellAt l.length (by omega)]
  exact padS_get l n hj
theorem toS_any (a : Option Addr) (n cap : Nat) (xs : List ByteArray) (w : World) (h : RS w.heap.size w a xs) (hn : xs.length = n) (hl : n ≤ 1048576) :
    Calls Try.prog 30 #[.slice a n cap] w fun e w' => ∃ b c, e = .returned (.slice b n c) ∧ RS w'.heap.size w' b xs ∧ Below w.heap.size w w' := by
  obtain ⟨i0, hi, hz0, hz1, hz2⟩ := info_parts Try.info9
  have HR := Lib.hid h
  have hlen := Lib.hid hn
  clear h hn
  go_enter Try.func30, Try.ntmps30
  go_wp2_with (at_make; refine wpList_make_full _ rfl _ _ 32 rfl w.heap.size 9 i0 _ 1 Try.underlying32 hi hz0 hz1 _ _ _ _ n rfl rfl rfl rfl (by rw [hz2]; omega) (by unfold maxLen; omega) (Nat.le_refl _) ?_; intro w3 hown hgrow)
  have hown3 : w3.ownsRow w.heap.size 9 1 (.slice (some ⟨w.heap.size, 0, none⟩) n n) n (padS (xs.take 0) n) := by rw [padS_made] at hown; exact hown
  have B3 : Hid (Below w.heap.size w w3) := (Below.refl w.heap.size w).grown hgrow (Nat.le_refl _) (by simp)
  clear hown hgrow
  go_loopw [4] (fun iv wr => ∃ k : Nat, k ≤ n ∧ iv = .int .i64 k ∧ wr.ownsRow w.heap.size 9 1 (.slice (some ⟨w.heap.size, 0, none⟩) n n) n (padS (xs.take k) n) ∧ Hid (Below w.heap.size w wr)) (fun iv _ => n - (intOf iv).toNat)
  case atStart => exact ⟨0, Nat.zero_le _, rfl, hown3, B3⟩
  case round =>
    obtain ⟨k, hk, rfl, hown, HB⟩ := hrel
    clear hown3 B3
    have hl2 : (xs.take k).length = k := by rw [List.length_take]; have := hlen.out; omega
    by_cases hlt : k < n
    · have hkx : k < xs.length := by have := hlen.out; omega
      obtain ⟨g, off, rfl, hg, hc⟩ := HR.out.at hkx
      have hT : Hid (xs.take (k + 1) = xs.take k ++ [xs[k]]) := by
        unfold Hid
        rw [List.take_add_one, List.getElem?_eq_getElem hkx]
        rfl
      obtain ⟨x, hx⟩ : ∃ x, xs[k] = x := ⟨_, rfl⟩
      rw [hx] at hc hT
      have hc2 := (HB.out.cell (p := ⟨g, off + k, none⟩) hg).trans hc
      obtain ⟨hd, hf⟩ := ownS_next hown hl2 hlt
      have HO := Lib.hid (ownS_step hown hl2 hlt x)
      have HB2 : Hid (Below w.heap.size w (wr.setCell ⟨w.heap.size, k, none⟩ (.string x))) := HB.out.setCell (p := ⟨w.heap.size, k, none⟩) (Nat.le_refl _) _
      clear hown HB hc hx hkx hl2
      go_wp2
      go_roundw
      case rel => exact ⟨k + 1, by omega, by go_num, by rw [hT.out]; exact HO.out, HB2⟩
      case measure => simp [intOf]; omega
    · obtain rfl : k = n := by omega
      have hp : Hid (padS (xs.take k) k = xs.map Value.string) := by
        unfold Hid
        have h1 := padS_full (xs.take k)
        rw [hl2] at h1
        rw [h1, List.take_of_length_le (by have := hlen.out; omega)]
      rw [hp.out] at hown
      have HO := Lib.hid hown
      clear hown
      go_wp2
      go_ret
      refine ⟨_, _, rfl, fun i x hx => ?_, HB.out⟩
      obtain ⟨hi2, hx2⟩ := List.getElem?_eq_some_iff.1 hx
      refine ⟨_, 0, rfl, own_lt HO.out, ?_⟩
      rw [Nat.zero_add, HO.out.cellAt i (by have := hlen.out; omega), List.getElem?_map, hx]
      rfl
theorem eqS_yes (a b : Option Addr) (n c1 c2 : Nat) (xs : List ByteArray) (w : World) (ha : RS w.heap.size w a xs) (hb : RS w.heap.size w b xs) (hn : xs.length = n) (hl : n ≤ 1048576) :
    Calls Try.prog 32 #[.slice a n c1, .slice b n c2] w fun e w' => e = .returned (.bool true) ∧ ∃ m, w' = w.drewN m := by
  have HA := Lib.hid ha
  have HB := Lib.hid hb
  have HN := Lib.hid hn
  have hne : ((n : Int) != (n : Int)) = false := by simp
  clear ha hb hn
  go_enter Try.func32, Try.ntmps32
  go_wp2
  go_loopw [5] (fun i wr => ∃ k m : Nat, k ≤ n ∧ i = .int .i64 k ∧ Hid (wr = w.drewN m)) (fun i _ => n - (intOf i).toNat)
  case atStart => exact ⟨0, 0, Nat.zero_le _, rfl, rfl⟩
  case round =>
    obtain ⟨k, m, hk, rfl, HW⟩ := hrel
    by_cases hlt : k < n
    · have hkx : k < xs.length := by rw [HN.out]; exact hlt
      obtain ⟨g1, o1, rfl, _, h1⟩ := HA.out.at hkx
      obtain ⟨g2, o2, rfl, _, h2⟩ := HB.out.at hkx
      obtain ⟨x, hx⟩ : ∃ x, xs[k] = x := ⟨_, rfl⟩
      rw [hx] at h1 h2
      have c1 : wr.cell? ⟨g1, o1 + k, none⟩ = some (.string x) := by rw [HW.out]; exact h1
      have c2 : wr.cell? ⟨g2, o2 + k, none⟩ = some (.string x) := by rw [HW.out]; exact h2
      clear h1 h2 hx hkx
      go_wp2
      go_quiet (fail)
      go_wp2
      go_roundw
      case rel => exact ⟨k + 1, m + nq, by omega, by go_num, by unfold Hid; rw [HW.out, drewN_twoG]⟩
      case measure => simp [intOf]; omega
    · go_wp2
      go_ret
      exact ⟨rfl, m, HW.out⟩
end Go.Proofs.Ytgpcacbjmjpdnab
