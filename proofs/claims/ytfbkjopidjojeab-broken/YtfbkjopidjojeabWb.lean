/-
  Walks, part b: what only reads words: bit, Long, Text, bothLead, bothRound, onLead, onRound, drift.
-/
import Derived.Test.YtfbkjopidjojeabWa
import Derived.Test.YtfbkjopidjojeabMb
import Derived.Deep.QuietTactic
import Derived.BigQuiet
namespace Go.Proofs.Ytfbkjopidjojeab
open Go.RowKit

theorem bcell {W w1 : World} (hb : Below W.heap.size W w1) : (∀ b o, b < W.heap.size → w1.cell? ⟨b, o, none⟩ = W.cell? ⟨b, o, none⟩) ∧ (∀ b o, b < W.heap.size → w1.frozen? ⟨b, o, none⟩ = W.frozen? ⟨b, o, none⟩) :=
  ⟨fun b o h => hb.cell (p := ⟨b, o, none⟩) h, fun b o h => hb.frozen (p := ⟨b, o, none⟩) h⟩

set_option maxRecDepth 50000 in
set_option maxHeartbeats 400000 in
theorem bit_lead (u v : ByteArray) (n : Nat) (w : World) (_hu : u.size ≤ 1152921504606846976) (_hv0 : v.toList.isEmpty = false) (hn : n < u.size) :
    Calls Try.prog 70 #[.agg #[.string u, .string v], .int .i64 n] w fun e w' => e = .returned (.bool ((u[n].toNat : Int) == 49)) ∧ Below w.heap.size w w' := by
  go_enter Try.func70, Try.ntmps70
  go_wp2
  go_ret
  exact ⟨rfl, ((Below.refl _ _).alloc (Nat.le_refl _) _).alloc (by simp) _⟩

set_option maxRecDepth 50000 in
set_option maxHeartbeats 400000 in
theorem bit_round (u v : ByteArray) (n : Nat) (w : World) (hv0 : v.toList.isEmpty = false) (hu : u.size ≤ 1152921504606846976) (hv : v.size ≤ 1152921504606846976) (hpos : 0 < v.size) (hn : u.size ≤ n) (hn2 : n ≤ 1152921504606846976) (hlt : (n - u.size) % v.size < v.size) :
    Calls Try.prog 70 #[.agg #[.string u, .string v], .int .i64 n] w fun e w' => e = .returned (.bool ((v[(n - u.size) % v.size].toNat : Int) == 49)) ∧ Below w.heap.size w w' := by
  have hp : (1 : Int) ≤ (v.size : Int) := by omega
  have hm : (u.size : Int) ≤ (n : Int) := by omega
  have hm2 : (0 : Int) ≤ (n : Int) - (u.size : Int) := by omega
  have hi : (0 : Int) ≤ ((n : Int) - (u.size : Int)) % (v.size : Int) := Int.emod_nonneg _ (by omega)
  have hi2 : ((n : Int) - (u.size : Int)) % (v.size : Int) < (v.size : Int) := Int.emod_lt_of_pos _ (by omega)
  go_enter Try.func70, Try.ntmps70
  go_wp2
  go_quiet (fail)
  go_wp2
  go_ret
  exact ⟨rfl, below_drewN (((Below.refl _ _).alloc (Nat.le_refl _) _).alloc (by simp) _) _⟩

theorem bs_nonempty {v : List Bool} (hv : v ≠ []) : (bs v).toList.isEmpty = false := by
  have h : 0 < v.length := List.length_pos_iff.2 hv
  have : (bs v).toList.length = v.length := by rw [ByteArray.toList_eq, bs_toList, List.length_map]
  cases e : (bs v).toList with
  | nil => rw [e] at this; simp at this; omega
  | cons _ _ => rfl

/-- A bit of a word. -/
theorem bit_any (u v : List Bool) (n : Nat) (w : World) (hv0 : v ≠ []) (hu : u.length ≤ 1152921504606846976) (hv : v.length ≤ 1152921504606846976) (hn : n ≤ 1152921504606846976) :
    Calls Try.prog 70 #[.agg #[.string (bs u), .string (bs v)], .int .i64 n] w fun e w' => e = .returned (.bool (bitAt u v n)) ∧ Below w.heap.size w w' := by
  have hL : 0 < v.length := List.length_pos_iff.2 hv0
  by_cases h : n < u.length
  · refine (bit_lead (bs u) (bs v) n w (by rw [bs_size]; exact hu) (bs_nonempty hv0) (by rw [bs_size]; exact h)).mono ?_
    rintro e w' ⟨rfl, hb⟩
    refine ⟨ret_bool ?_, hb⟩
    rw [bs_get, bb_49, bitAt_lead h]
  · have hlt : (n - u.length) % v.length < v.length := Nat.mod_lt _ hL
    refine (bit_round (bs u) (bs v) n w (bs_nonempty hv0) (by rw [bs_size]; exact hu) (by rw [bs_size]; exact hv) (by rw [bs_size]; exact hL) (by rw [bs_size]; omega) hn (by rw [bs_size, bs_size]; exact hlt)).mono ?_
    rintro e w' ⟨rfl, hb⟩
    refine ⟨ret_bool ?_, hb⟩
    rw [bs_get, bb_49]
    unfold bitAt
    rw [if_neg h, getD_lt hlt]
    simp only [bs_size]

/-- A word's text. -/
def txt (u v : ByteArray) : ByteArray := u ++ ⟨#[40]⟩ ++ v ++ ⟨#[41]⟩

set_option maxRecDepth 50000 in
set_option maxHeartbeats 400000 in
theorem Text_any (u v : ByteArray) (w : World) (hu : u.size ≤ 1152921504606846976) (hv : v.size ≤ 1152921504606846976) :
    Calls Try.prog 35 #[.agg #[.string u, .string v]] w fun e w' => e = .returned (.string (txt u v)) ∧ Below w.heap.size w w' := by
  go_enter Try.func35, Try.ntmps35
  go_wp2
  go_ret
  exact ⟨rfl, (Below.refl _ _).alloc (Nat.le_refl _) _⟩

set_option maxRecDepth 50000 in
set_option maxHeartbeats 400000 in
theorem Long_any (u v : ByteArray) (w : World) (hu : u.size ≤ 1152921504606846976) (hv : v.size ≤ 1152921504606846976) :
    Calls Try.prog 66 #[.agg #[.string u, .string v]] w fun e w' => e = .returned (.bool (decide (64 < u.size) || decide (64 < v.size))) ∧ Below w.heap.size w w' := by
  by_cases h : 64 < u.size
  · go_enter Try.func66, Try.ntmps66
    go_wp2
    go_ret
    exact ⟨ret_bool (by simp), (Below.refl _ _).alloc (Nat.le_refl _) _⟩
  · go_enter Try.func66, Try.ntmps66
    go_wp2
    go_ret
    exact ⟨ret_bool (by rw [Bool.eq_iff_iff]; simp; omega), (Below.refl _ _).alloc (Nat.le_refl _) _⟩

set_option maxRecDepth 50000 in
set_option maxHeartbeats 400000 in
theorem bothLead_any (u v x y : ByteArray) (w : World) (_hu : u.size ≤ 1152921504606846976) (_hv : x.size ≤ 1152921504606846976) :
    Calls Try.prog 91 #[.agg #[.string u, .string v], .agg #[.string x, .string y]] w fun e w' => e = .returned (.int .i64 (max u.size x.size : Nat)) ∧ Below w.heap.size w w' := by
  by_cases h : x.size < u.size
  · go_enter Try.func91, Try.ntmps91
    go_wp2
    go_ret
    exact ⟨ret_int (by omega), ((Below.refl _ _).alloc (Nat.le_refl _) _).alloc (by simp) _⟩
  · go_enter Try.func91, Try.ntmps91
    go_wp2
    go_ret
    exact ⟨ret_int (by omega), ((Below.refl _ _).alloc (Nat.le_refl _) _).alloc (by simp) _⟩

set_option maxRecDepth 50000 in
set_option maxHeartbeats 400000 in
theorem bothRound_any (u v x y : ByteArray) (w : World) (hv : v.size ≤ 1048576) (hy : y.size ≤ 1048576) :
    Calls Try.prog 92 #[.agg #[.string u, .string v], .agg #[.string x, .string y]] w fun e w' => e = .returned (.int .i64 (Nat.lcm v.size y.size : Nat)) ∧ Below w.heap.size w w' := by
  go_enter Try.func92, Try.ntmps92
  go_wp2_with (go_at_call 104; refine (common_any _ _ _ (by omega) (by omega)).mono ?_; rintro e w' ⟨rfl, rfl⟩)
  go_ret
  exact ⟨rfl, ((Below.refl _ _).alloc (Nat.le_refl _) _).alloc (by simp) _⟩

set_option maxRecDepth 50000 in
set_option maxHeartbeats 400000 in
theorem drift_any (u v x y : ByteArray) (w : World) (hv : v.size ≤ 1048576) (hy : y.size ≤ 1048576) :
    Calls Try.prog 74 #[.agg #[.string u, .string v], .agg #[.string x, .string y]] w fun e w' => e = .returned (.int .i64 (cn v.data.toList * (y.size : Int) - cn y.data.toList * (v.size : Int))) ∧ Below w.heap.size w w' := by
  have c1 := cn_le v.data.toList
  have c2 := cn_le y.data.toList
  have l1 : v.data.toList.length = v.size := by simp
  have l2 : y.data.toList.length = y.size := by simp
  rw [l1] at c1; rw [l2] at c2
  clear l1 l2
  have m1 : 0 ≤ cn v.data.toList * (y.size : Int) ∧ cn v.data.toList * (y.size : Int) ≤ 1048576 * 1048576 := ⟨Int.mul_nonneg c1.1 (by omega), Int.mul_le_mul (by omega) (by omega) (by omega) (by omega)⟩
  have m2 : 0 ≤ cn y.data.toList * (v.size : Int) ∧ cn y.data.toList * (v.size : Int) ≤ 1048576 * 1048576 := ⟨Int.mul_nonneg c2.1 (by omega), Int.mul_le_mul (by omega) (by omega) (by omega) (by omega)⟩
  obtain ⟨m1a, m1b⟩ := m1
  obtain ⟨m2a, m2b⟩ := m2
  go_enter Try.func74, Try.ntmps74
  go_wp2
  go_quiet ((go_at_call 90; exact Calls.quiet_of_same (count_any _ _ (by unfold maxLen; omega))))
  go_wp2
  go_ret
  exact ⟨rfl, below_drewN (((Below.refl _ _).alloc (Nat.le_refl _) _).alloc (by simp) _) _⟩
end Go.Proofs.Ytfbkjopidjojeab
