/-
  Walks over package streamsref, part b: text, greater, bits, Text.
-/
import Derived.Test.YtfbkjopidjojeaaRa
namespace Go.Proofs.Ytfbkjopidjojeaa
open Go.RowKit

theorem tab_snoc (f : Nat → Bool) (a k : Nat) : tab f a (k + 1) = tab f a k ++ [f (a + k)] := by
  unfold tab; rw [List.range_succ, List.map_append]; simp

set_option maxRecDepth 50000 in
set_option maxHeartbeats 400000 in
theorem rtext_any (u v : List Bool) (a b : Nat) (w : World) (hv0 : v ≠ []) (hu : u.length ≤ 1048576) (hv : v.length ≤ 1048576) (ha : a ≤ b) (hb : b ≤ 4398046511104) :
    Calls Try.prog 60 #[.agg #[.string (bs u), .string (bs v)], .int .i64 a, .int .i64 b] w fun e w' => e = .returned (.string (bs (tab (bitAt u v) a (b - a)))) ∧ Below w.heap.size w w' := by
  obtain ⟨i0, hi, hz0, hz1, hz2⟩ := info_parts Try.info5
  have hA := R1_a w u v
  go_enter Try.func60, Try.ntmps60
  go_wp2
  go_loopw [7, 8] (fun r i wr => ∃ k : Nat, a + k ≤ b ∧ i = .int .i64 (a + k : Nat) ∧ wr.ownsRow (w.heap.size + 1) 5 1 r k (cellsOf (tab (bitAt u v) a k)) ∧ Below (w.heap.size + 1) (R1 w u v) wr) (fun _ i _ => b - (intOf i).toNat)
  case atStart => exact ⟨0, by omega, by simp, World.ownsRow_nil _ _ _ _, Below.refl _ _⟩
  case round =>
    obtain ⟨k, hk, rfl, hown, hG⟩ := hrel
    have hsz := hG.size
    rw [R1_size] at hsz
    obtain ⟨a0, a1, _, _⟩ := hA.below hG (by omega)
    by_cases hlt : a + k < b
    · cases hbit : bitAt u v (a + k)
      all_goals
        go_wp2_with fail
        refine (rBit_int u v _ (a + k) wr (by omega) hv0 (by omega) (by omega) (by omega)).mono ?_
        rintro e w1 ⟨rfl, hb1⟩
        rw [hbit]
        have hz1' := hb1.size
        have hown1 := ownsRow_below hown hb1
      · go_wp2_with (at_builtin; refine wpList_append_own _ rfl _ _ 63 rfl (w.heap.size + 1) 5 i0 (.int .u8 0) 1 1 Try.under63 hi hz0 hz1 hz2 rfl (by decide) _ _ _ rfl (hown1.alloc _) ⟨w1.heap.size, 0, none⟩ 1 1 [.int .u8 ((bb false).toNat : Int)] rfl rfl (cell_one_new _ _ _) (by intro x hx; simp at hx; subst hx; rfl) (by unfold maxLen; omega) (by omega) (by simp; omega) ?_; intro v' w' hown' hgrow _)
        have R := rel_grow (by omega) hown1 (hG.trans (hb1.mono (by omega))) hown' hgrow
        rw [← hbit, ← tab_snoc] at R
        clear hown' hgrow hown hG hown1 hb1 a0 a1 hbit
        go_wp2
        go_roundw
        case rel => exact ⟨k + 1, by omega, by go_num, R.1, R.2⟩
        case measure => simp [intOf]; omega
      · go_wp2_with (at_builtin; refine wpList_append_own _ rfl _ _ 63 rfl (w.heap.size + 1) 5 i0 (.int .u8 0) 1 1 Try.under63 hi hz0 hz1 hz2 rfl (by decide) _ _ _ rfl (hown1.alloc _) ⟨w1.heap.size, 0, none⟩ 1 1 [.int .u8 ((bb true).toNat : Int)] rfl rfl (cell_one_new _ _ _) (by intro x hx; simp at hx; subst hx; rfl) (by unfold maxLen; omega) (by omega) (by simp; omega) ?_; intro v' w' hown' hgrow _)
        have R := rel_grow (by omega) hown1 (hG.trans (hb1.mono (by omega))) hown' hgrow
        rw [← hbit, ← tab_snoc] at R
        clear hown' hgrow hown hG hown1 hb1 a0 a1 hbit
        go_wp2
        go_roundw
        case rel => exact ⟨k + 1, by omega, by go_num, R.1, R.2⟩
        case measure => simp [intOf]; omega
    · have hke : k = b - a := by omega
      have kv := own_string hown
      clear hown
      go_wp2
      go_ret
      exact ⟨by rw [hke]; rfl, (R1_below w u v).trans (hG.mono (by omega))⟩

set_option maxRecDepth 50000 in
set_option maxHeartbeats 400000 in
theorem rgreater_any (a b : Int) (w : World) :
    Calls Try.prog 42 #[.int .i64 a, .int .i64 b] w fun e w' => e = .returned (.int .i64 (max a b)) ∧ w' = w := by
  by_cases h : b < a
  · go_enter Try.func42, Try.ntmps42
    go_wp2
    go_ret
    exact ⟨ret_int (by omega), rfl⟩
  · go_enter Try.func42, Try.ntmps42
    go_wp2
    go_ret
    exact ⟨ret_int (by omega), rfl⟩

set_option maxRecDepth 50000 in
set_option maxHeartbeats 400000 in
theorem rbits_any (s : ByteArray) (w : World) (hs : s.size ≤ maxLen) :
    Calls Try.prog 38 #[.string s] w fun e w' => e = .returned (.bool (allBits s.data.toList)) ∧ w' = w := by
  unfold maxLen at hs
  go_enter Try.func38, Try.ntmps38
  go_wp2
  go_loop [3] (fun i => ∃ k : Nat, k ≤ s.size ∧ i = .int .i64 k ∧ allBits (s.data.toList.take k) = true) (fun i => s.size - (intOf i).toNat)
  case atStart => exact ⟨0, Nat.zero_le _, rfl, rfl⟩
  case round =>
    obtain ⟨k, hk, rfl, hf⟩ := hrel
    by_cases hlt : k < s.size
    · go_wp2
      · go_round
        case rel => exact ⟨k + 1, by omega, by go_num, allBits_48 hlt hf (by assumption)⟩
        case measure => simp [intOf]; omega
      · go_ret
        have hh : ((s[k].toNat : Int) != 48) = true ∧ ((s[k].toNat : Int) != 49) = true := by assumption
        exact ⟨ret_bool (by rw [allBits_bad hlt hh.1 hh.2]), rfl⟩
      · go_round
        case rel => exact ⟨k + 1, by omega, by go_num, allBits_49 hlt hf (by assumption) (by assumption)⟩
        case measure => simp [intOf]; omega
    · go_wp2
      go_ret
      exact ⟨ret_bool (by rw [List.take_of_length_le (by simp; omega)] at hf; rw [hf]), rfl⟩

set_option maxRecDepth 50000 in
set_option maxHeartbeats 400000 in
theorem rText_any (u v : ByteArray) (w : World) (hu : u.size ≤ 1152921504606846976) (hv : v.size ≤ 1152921504606846976) :
    Calls Try.prog 41 #[.agg #[.string u, .string v]] w fun e w' => e = .returned (.string (txt u v)) ∧ Below w.heap.size w w' := by
  go_enter Try.func41, Try.ntmps41
  go_wp2
  go_ret
  exact ⟨rfl, (Below.refl _ _).alloc (Nat.le_refl _) _⟩
end Go.Proofs.Ytfbkjopidjojeaa
