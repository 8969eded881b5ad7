/-
  Walks, part c: onLead, onRound of package word.
-/
import Derived.Test.YtfbkjopidjojeabWb
namespace Go.Proofs.Ytfbkjopidjojeab
open Go.RowKit

theorem w64 (n : Int) (h : -9223372036854775808 ≤ n ∧ n ≤ 9223372036854775807) : wrap64 n = n := by unfold wrap64; omega
theorem mul_step (k g : Nat) : (k + 1) * g = k * g + g := by rw [Nat.add_mul, Nat.one_mul]

/-- What onLead gives. -/
def OnLead (u v x : ByteArray) (e : Ending) : Prop :=
  ∃ k : Nat, e = .returned (.int .i64 (u.size + k * v.size : Nat)) ∧ k ≤ x.size ∧ (0 < cn v.data.toList → (x.size : Int) ≤ cn u.data.toList + k * cn v.data.toList) ∧ (cn v.data.toList = 0 → k = 0)

set_option maxRecDepth 50000 in
set_option maxHeartbeats 800000 in
theorem onLead_any (u v x y : ByteArray) (w : World) (hu : u.size ≤ 1048576) (hv : v.size ≤ 1048576) (hx : x.size ≤ 1048576) :
    Calls Try.prog 97 #[.agg #[.string u, .string v], .agg #[.string x, .string y]] w fun e w' =>
      OnLead u v x e ∧ Below w.heap.size w w' := by
  obtain ⟨g, hg⟩ : ∃ g : Nat, cn v.data.toList = g := ⟨_, rfl⟩
  obtain ⟨c, hc⟩ : ∃ c : Nat, cn u.data.toList = c := ⟨_, rfl⟩
  have hg1 : g ≤ 1048576 := by have := cn_le v.data.toList; rw [hg] at this; simp at this; omega
  have hc1 : c ≤ 1048576 := by have := cn_le u.data.toList; rw [hc] at this; simp at this; omega
  by_cases h0 : g = 0
  · subst h0
    go_enter Try.func97, Try.ntmps97
    go_wp2_with (go_at_call 90; refine (count_any _ _ (by unfold maxLen; omega)).mono ?_; rintro e w' ⟨rfl, rfl⟩)
    go_ret
    exact ⟨⟨0, ret_int (by simp), by omega, fun h => by rw [hg] at h; omega, fun _ => rfl⟩, ((Below.refl _ _).alloc (Nat.le_refl _) _).alloc (by simp) _⟩
  · have hg0 : (1 : Int) ≤ g := by omega
    go_enter Try.func97, Try.ntmps97
    go_wp2_with (go_at_call 90; refine (count_any _ _ (by unfold maxLen; omega)).mono ?_; rintro e w' ⟨rfl, rfl⟩)
    go_loop [5, 7] (fun a b => ∃ k L U : Nat, Hid (L = u.size + k * v.size) ∧ Hid (U = c + k * g) ∧ k ≤ x.size ∧ L ≤ 1152921504606846976 ∧ U ≤ 1152921504606846976 ∧ a = .int .i64 L ∧ b = .int .i64 U) (fun _ b => x.size - (intOf b).toNat)
    case atStart => exact ⟨0, u.size, c, by show _ = _; omega, by show _ = _; omega, by omega, by omega, by omega, rfl, rfl⟩
    case round =>
      obtain ⟨k, L, U, HL, HU, hk, hLb, hUb, rfl, rfl⟩ := hrel
      by_cases hlt : U < x.size
      · have hk1 : k < x.size := by have := HU.out; have : k * 1 ≤ k * g := Nat.mul_le_mul_left k (by omega); omega
        go_wp2
        go_round
        case rel =>
          have eL := HL.out
          have eU := HU.out
          have b1 : (k + 1) * v.size ≤ 1048576 * 1048576 := Nat.mul_le_mul (by omega) hv
          have b2 : (k + 1) * g ≤ 1048576 * 1048576 := Nat.mul_le_mul (by omega) hg1
          exact ⟨k + 1, u.size + (k + 1) * v.size, c + (k + 1) * g, rfl, rfl, by omega, by omega, by omega, by rw [mul_step]; go_num, by rw [mul_step]; go_num⟩
        case measure => simp [intOf]; omega
      · go_wp2
        go_ret
        have eL := HL.out
        have eU := HU.out
        refine ⟨⟨k, ret_int (by rw [eL]), hk, fun _ => ?_, fun h => by rw [hg] at h; omega⟩, ((Below.refl _ _).alloc (Nat.le_refl _) _).alloc (by simp) _⟩
        rw [hc, hg]
        have : ((c + k * g : Nat) : Int) = (c : Int) + k * g := by simp
        omega

set_option maxRecDepth 50000 in
set_option maxHeartbeats 800000 in
theorem onRound_any (u v x y : ByteArray) (w : World) (hv : v.size ≤ 1048576) (hy : y.size ≤ 1048576) (g : Nat) (hg : cn v.data.toList = g) :
    Calls Try.prog 98 #[.agg #[.string u, .string v], .agg #[.string x, .string y]] w fun e w' =>
      e = .returned (.int .i64 ((if g = 0 then v.size else Nat.lcm g y.size / g * v.size : Nat))) ∧ Below w.heap.size w w' := by
  have hg1 : g ≤ 1048576 := by have := cn_le v.data.toList; rw [hg] at this; simp at this; omega
  by_cases h0 : g = 0
  · subst h0
    go_enter Try.func98, Try.ntmps98
    go_wp2_with (go_at_call 90; refine (count_any _ _ (by unfold maxLen; omega)).mono ?_; rintro e w' ⟨rfl, rfl⟩)
    go_ret
    exact ⟨ret_int (by simp), ((Below.refl _ _).alloc (Nat.le_refl _) _).alloc (by simp) _⟩
  · have hg0 : (1 : Int) ≤ g := by omega
    have hgn : ¬ (g : Int) = 0 := by omega
    rw [if_neg h0]
    have hL : Nat.lcm g y.size ≤ 1048576 * 1048576 := Nat.le_trans (lcm_le_mul _ _) (Nat.mul_le_mul hg1 hy)
    have hq : Nat.lcm g y.size / g ≤ 1048576 := by
      apply Nat.le_trans (Nat.div_le_div_right (lcm_le_mul g y.size))
      rw [Nat.mul_div_cancel_left _ (by omega)]; exact hy
    have hQ : Nat.lcm g y.size / g * v.size ≤ 1048576 * 1048576 := Nat.mul_le_mul hq hv
    have hQe : (((Nat.lcm g y.size / g * v.size : Nat)) : Int) = ((Nat.lcm g y.size : Nat) : Int) / (g : Int) * (v.size : Int) := by rw [Int.natCast_mul, Int.natCast_ediv]
    have hQ1 : ((Nat.lcm g y.size : Nat) : Int) / (g : Int) * (v.size : Int) ≤ 1099511627776 := by rw [← hQe]; omega
    have hQ2 : 0 ≤ ((Nat.lcm g y.size : Nat) : Int) / (g : Int) * (v.size : Int) := by rw [← hQe]; omega
    have HQ : Hid _ := hQe
    clear hQe hQ
    go_enter Try.func98, Try.ntmps98
    go_wp2_with (go_at_call 90; refine (count_any _ _ (by unfold maxLen; omega)).mono ?_; rintro e w' ⟨rfl, rfl⟩)
    go_quiet ((go_at_call 104; exact Calls.quiet_of_same (common_any _ _ _ (by omega) (by omega))))
    go_wp2
    go_ret
    refine ⟨?_, below_drewN (((Below.refl _ _).alloc (Nat.le_refl _) _).alloc (by simp) _) _⟩
    have hd : (((Nat.lcm g y.size / g : Nat)) : Int) = ((Nat.lcm g y.size : Nat) : Int) / (g : Int) := by rw [Int.natCast_ediv]
    obtain ⟨q, hqe⟩ : ∃ q, q = Nat.lcm g y.size / g := ⟨_, rfl⟩
    have hq1 : q ≤ 1048576 := by rw [hqe]; exact hq
    rw [← hqe] at hd
    clear hq hqe
    exact ret_int (by rw [HQ.out, w64 (((Nat.lcm g y.size : Nat) : Int) / (g : Int)) (by omega), w64 _ (by omega)])
end Go.Proofs.Ytfbkjopidjojeab
