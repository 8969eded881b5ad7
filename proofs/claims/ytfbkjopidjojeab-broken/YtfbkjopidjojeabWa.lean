/-
  Walks, part a: findOpen, isPart, count, digit, common of package word.
-/
import Derived.Test.YtfbkjopidjojeabRows
import Derived.Test.YtfbkjopidjojeabMa
import Derived.WalkKit
import Derived.WalkSpells
import Derived.WalkLawsBesides
namespace Go.Proofs.Ytfbkjopidjojeab
open Go.RowKit

theorem ret_int {k : IntKind} {a b : Int} (h : a = b) : Ending.returned (.int k a) = .returned (.int k b) := by rw [h]

set_option maxRecDepth 50000 in
set_option maxHeartbeats 400000 in
theorem count_any (s : ByteArray) (w : World) (hs : s.size ≤ maxLen) :
    Calls Try.prog 90 #[.string s] w fun e w' => e = .returned (.int .i64 (cn s.data.toList)) ∧ w' = w := by
  unfold maxLen at hs
  go_enter Try.func90, Try.ntmps90
  go_wp2
  go_loop [3, 4] (fun n i => ∃ k : Nat, k ≤ s.size ∧ i = .int .i64 k ∧ n = .int .i64 (cn (s.data.toList.take k))) (fun _ i => s.size - (intOf i).toNat)
  case atStart => exact ⟨0, Nat.zero_le _, rfl, rfl⟩
  case round =>
    obtain ⟨k, hk, rfl, rfl⟩ := hrel
    have hd := cn_le (s.data.toList.take k)
    have hl : (s.data.toList.take k).length ≤ k := List.length_take_le _ _
    by_cases hlt : k < s.size
    · go_wp2
      all_goals
        go_round
        case rel => exact ⟨k + 1, by omega, by go_num, by first | rw [cn_yes hlt (by assumption)] | rw [cn_no hlt (by assumption)]⟩
        case measure => simp [intOf]; omega
    · go_wp2
      go_ret
      exact ⟨ret_int (by rw [List.take_of_length_le (by simp; omega)]), rfl⟩

set_option maxRecDepth 50000 in
set_option maxHeartbeats 400000 in
theorem findOpen_any (s : ByteArray) (w : World) (hs : s.size ≤ maxLen) :
    Calls Try.prog 105 #[.string s] w fun e w' => e = .returned (.int .i64 (fo s.data.toList)) ∧ w' = w := by
  unfold maxLen at hs
  go_enter Try.func105, Try.ntmps105
  go_wp2
  go_loop [3] (fun i => ∃ k : Nat, k ≤ s.size ∧ i = .int .i64 k ∧ k ≤ foN s.data.toList) (fun i => s.size - (intOf i).toNat)
  case atStart => exact ⟨0, Nat.zero_le _, rfl, Nat.zero_le _⟩
  case round =>
    obtain ⟨k, hk, rfl, hf⟩ := hrel
    by_cases hlt : k < s.size
    · go_wp2
      · go_ret
        exact ⟨ret_int (by rw [fo_hit hlt hf (by assumption)]), rfl⟩
      · go_round
        case rel => exact ⟨k + 1, by omega, by go_num, fo_miss hlt hf (by assumption)⟩
        case measure => simp [intOf]; omega
    · go_wp2
      go_ret
      exact ⟨ret_int (by rw [fo_end hlt hf]), rfl⟩

theorem ret_bool {a b : Bool} (h : a = b) : Ending.returned (.bool a) = .returned (.bool b) := by rw [h]

set_option maxRecDepth 50000 in
set_option maxHeartbeats 400000 in
theorem isPart_any (s : ByteArray) (w : World) (hs : s.size ≤ maxLen) :
    Calls Try.prog 106 #[.string s] w fun e w' => e = .returned (.bool (isP s.data.toList)) ∧ w' = w := by
  unfold maxLen at hs
  have hl : s.data.toList.length = s.size := by simp
  by_cases h12 : s.size ≤ 12
  · go_enter Try.func106, Try.ntmps106
    go_wp2
    go_loop [3] (fun i => ∃ k : Nat, k ≤ s.size ∧ i = .int .i64 k ∧ allBits (s.data.toList.take k) = true) (fun i => s.size - (intOf i).toNat)
    case atStart => exact ⟨0, Nat.zero_le _, rfl, rfl⟩
    case round =>
      obtain ⟨k, hk, rfl, hf⟩ := hrel
      by_cases hlt : k < s.size
      · go_wp2
        · go_round
          case rel => exact ⟨k + 1, by omega, by go_num, allBits_48 hlt hf (by assumption)⟩
          case measure => simp [intOf]; omega
        · go_ret
          have hh : ((s[k].toNat : Int) != 48) = true ∧ ((s[k].toNat : Int) != 49) = true := by assumption
          exact ⟨ret_bool (by simp [isP, allBits_bad hlt hh.1 hh.2]), rfl⟩
        · go_round
          case rel => exact ⟨k + 1, by omega, by go_num, allBits_49 hlt hf (by assumption) (by assumption)⟩
          case measure => simp [intOf]; omega
      · go_wp2
        go_ret
        exact ⟨ret_bool (by rw [List.take_of_length_le (by simp; omega)] at hf; simp [isP, hf, hl, h12]), rfl⟩
  · go_enter Try.func106, Try.ntmps106
    go_wp2
    go_ret
    exact ⟨ret_bool (by simp [isP, hl, h12]), rfl⟩

set_option maxRecDepth 50000 in
set_option maxHeartbeats 400000 in
theorem digit_any (x : Bool) (w : World) :
    Calls Try.prog 99 #[.bool x] w fun e w' => e = .returned (.int .u8 ((bb x).toNat : Int)) ∧ w' = w := by
  cases x
  all_goals
    go_enter Try.func99, Try.ntmps99
    go_wp2
    go_ret
    exact ⟨rfl, rfl⟩

set_option maxRecDepth 50000 in
set_option maxHeartbeats 400000 in
theorem common_any (a b : Nat) (w : World) (ha : a ≤ 1099511627776) (hb : b ≤ 1048576) :
    Calls Try.prog 104 #[.int .i64 a, .int .i64 b] w fun e w' => e = .returned (.int .i64 (Nat.lcm a b : Nat)) ∧ w' = w := by
  by_cases ha0 : a = 0
  · subst ha0
    go_enter Try.func104, Try.ntmps104
    go_wp2
    go_ret
    exact ⟨ret_int (by simp), rfl⟩
  by_cases hb0 : b = 0
  · subst hb0
    have h1 : (1 : Int) ≤ a := by omega
    go_enter Try.func104, Try.ntmps104
    go_wp2
    go_ret
    exact ⟨ret_int (by simp), rfl⟩
  have h1 : (1 : Int) ≤ a := by omega
  have h2 : (1 : Int) ≤ b := by omega
  have hL : Nat.lcm a b ≤ 1099511627776 * 1048576 := Nat.le_trans (lcm_le_mul a b) (Nat.mul_le_mul ha hb)
  go_enter Try.func104, Try.ntmps104
  go_wp2
  go_loop [5] (fun i => ∃ n : Nat, (∃ j, 0 < j ∧ n = a * j) ∧ n ≤ Nat.lcm a b ∧ i = .int .i64 n) (fun i => Nat.lcm a b - (intOf i).toNat)
  case atStart => exact ⟨a, ⟨1, by omega, by omega⟩, Nat.le_of_dvd (Nat.lcm_pos (by omega) (by omega)) (Nat.dvd_lcm_left a b), rfl⟩
  case round =>
    obtain ⟨n, HJ, hle, rfl⟩ := hrel
    have hn0 : n ≤ 1152921504606846976 := by omega
    by_cases hm : n % b = 0
    · have hmi : (n : Int) % (b : Int) = 0 := by omega
      go_wp2
      go_ret
      obtain ⟨j, hj, rfl⟩ := HJ
      exact ⟨ret_int (by rw [lcm_done (by omega) hj hle hm]), rfl⟩
    · have hmi : ¬ (n : Int) % (b : Int) = 0 := by omega
      go_wp2
      go_round
      case rel =>
        obtain ⟨j, hj, rfl⟩ := HJ
        exact ⟨a * (j + 1), ⟨j + 1, by omega, rfl⟩, lcm_step (by omega) hle hm, by rw [Nat.mul_add, Nat.mul_one]; go_num⟩
      case measure =>
        obtain ⟨j, hj, rfl⟩ := HJ
        have := lcm_step (by omega) hle hm
        rw [Nat.mul_add, Nat.mul_one] at this
        simp only [intOf]; omega
end Go.Proofs.Ytfbkjopidjojeab
