/-
  Walks over package streamsref, part f: On.
-/
import Derived.Test.YtfbkjopidjojeaaRe
namespace Go.Proofs.Ytfbkjopidjojeaa
open Go.RowKit

set_option maxRecDepth 50000 in
set_option maxHeartbeats 1000000 in
theorem rOn_any (u v x y : List Bool) (w : World) (hv0 : v ≠ []) (hy0 : y ≠ []) (hu : u.length ≤ 4096) (hv : v.length ≤ 4096) (hx : x.length ≤ 4096) (hy : y.length ≤ 4096) :
    Calls Try.prog 25 #[.agg #[.string (bs u), .string (bs v)], .agg #[.string (bs x), .string (bs y)]] w fun e w' => e = .returned (.agg #[.string (bs (tab (onS (bitAt u v) (bitAt x y)) 0 (u.length + v.length * x.length))), .string (bs (tab (onS (bitAt u v) (bitAt x y)) (u.length + v.length * x.length) (v.length * y.length)))]) ∧ Below w.heap.size w w' := by
  obtain ⟨i0, hi, hz0, hz1, hz2⟩ := info_parts Try.info5
  have hA := R3_a w u v x y
  have hB := R3_b w u v x y
  have hR := R3_r w u v x y
  have s1 : (bs u).size = u.length := bs_size u
  have s2 : (bs v).size = v.length := bs_size v
  have s3 : (bs x).size = x.length := bs_size x
  have s4 : (bs y).size = y.length := bs_size y
  have hv1 : 0 < v.length := List.length_pos_iff.2 hv0
  have hy1 : 0 < y.length := List.length_pos_iff.2 hy0
  have hP0 : 0 < v.length * y.length := Nat.mul_pos hv1 hy1
  have hPb : v.length * y.length ≤ 4096 * 4096 := Nat.mul_le_mul hv hy
  have hQb : v.length * x.length ≤ 4096 * 4096 := Nat.mul_le_mul hv hx
  have hQi : (v.length : Int) * (x.length : Int) = ((v.length * x.length : Nat) : Int) := by simp
  have hPi : (v.length : Int) * (y.length : Int) = ((v.length * y.length : Nat) : Int) := by simp
  obtain ⟨Q, hQ⟩ : ∃ Q, v.length * x.length = Q := ⟨_, rfl⟩
  obtain ⟨P, hP⟩ : ∃ P, v.length * y.length = P := ⟨_, rfl⟩
  rw [hQ] at hQb hQi ⊢
  rw [hP] at hP0 hPb hPi ⊢
  clear hQ hP
  obtain ⟨M, hM⟩ : ∃ M, u.length + Q = M := ⟨_, rfl⟩
  have hMi : (u.length : Int) + (Q : Int) = (M : Int) := by omega
  rw [hM]
  have hMb : M ≤ 33554432 := by omega
  go_enter Try.func25, Try.ntmps25
  go_wp2
  clear hMi hPi hQi hM
  go_loopw [7, 8, 9] (fun r nx i wr => ∃ k N : Nat, k ≤ M + P ∧ i = .int .i64 k ∧ nx = .int .i64 N ∧ Hid (N = ones (bitAt u v) k) ∧ N ≤ k ∧ RGath w u v x y (onS (bitAt u v) (bitAt x y)) k r wr) (fun _ _ i _ => M + P - (intOf i).toNat)
  case atStart => exact ⟨0, 0, by omega, rfl, rfl, rfl, by omega, World.ownsRow_nil _ _ _ _, Below.refl _ _⟩
  case round =>
    obtain ⟨k, N, hk, rfl, rfl, HN, hN, hG⟩ := hrel
    have hsz := hG.size
    obtain ⟨a0, a1, _, _⟩ := hA.below hG.2 (by omega)
    obtain ⟨b0, b1, _, _⟩ := hB.below hG.2 (by omega)
    have hown := hG.1
    by_cases hlt : k < M + P
    · cases h1 : bitAt u v k
      · go_wp2_with fail
        refine (rBit_any u v k wr hv0 (by omega) (by omega) (by omega)).mono ?_
        rintro e w1 ⟨rfl, hb1⟩
        rw [h1]
        have hz1' := hb1.size
        have hown1 := ownsRow_below hown hb1
        go_wp2_with (at_builtin; refine wpList_append_own _ rfl _ _ 63 rfl (w.heap.size + 1 + 1 + 1) 5 i0 (.int .u8 0) 1 1 Try.under63 hi hz0 hz1 hz2 rfl (by decide) _ _ _ rfl (hown1.alloc _) ⟨w1.heap.size, 0, none⟩ 1 1 [.int .u8 ((bb false).toNat : Int)] rfl rfl (cell_one_new _ _ _) (by intro x hx; simp at hx; subst hx; rfl) (by unfold maxLen; omega) (by omega) (by simp; omega) ?_; intro v' w' hown' hgrow _)
        have R := rgath_app hG hb1 (by simp only [onS, h1, Bool.false_and]) hown' hgrow
        have HN1 : Hid (N = ones (bitAt u v) (k + 1)) := by show _ = _; rw [ones, h1, ← HN.out]; rfl
        clear hown' hgrow hown hG hown1 hb1 a0 a1 b0 b1 h1
        go_wp2
        go_roundw
        case rel => exact ⟨k + 1, N, by omega, by go_num, rfl, HN1, by omega, R⟩
        case measure => simp [intOf]; omega
      · cases h2 : bitAt x y N
        · go_wp2_with fail
          refine (rBit_any u v k wr hv0 (by omega) (by omega) (by omega)).mono ?_
          rintro e w1 ⟨rfl, hb1⟩
          rw [h1]
          have hz1' := hb1.size
          obtain ⟨b0', b1', _, _⟩ := (hB.below hG.2 (by omega)).below hb1 (by omega)
          go_wp2_with fail
          refine (rBit_any x y N w1 hy0 (by omega) (by omega) (by omega)).mono ?_
          rintro e w2 ⟨rfl, hb2⟩
          rw [h2]
          have hz2' := hb2.size
          have hown2 := ownsRow_below hown (below_two hb1 hb2)
          go_wp2_with (at_builtin; refine wpList_append_own _ rfl _ _ 63 rfl (w.heap.size + 1 + 1 + 1) 5 i0 (.int .u8 0) 1 1 Try.under63 hi hz0 hz1 hz2 rfl (by decide) _ _ _ rfl (hown2.alloc _) ⟨w2.heap.size, 0, none⟩ 1 1 [.int .u8 ((bb false).toNat : Int)] rfl rfl (cell_one_new _ _ _) (by intro x hx; simp at hx; subst hx; rfl) (by unfold maxLen; omega) (by omega) (by simp; omega) ?_; intro v' w' hown' hgrow _)
          have R := rgath_app hG (below_two hb1 hb2) (by simp only [onS, h1, Bool.true_and, ← HN.out, h2]) hown' hgrow
          have HN1 : Hid (N + 1 = ones (bitAt u v) (k + 1)) := by show _ = _; rw [ones, h1, ← HN.out]; rfl
          clear hown' hgrow hown hG hown2 hb1 hb2 a0 a1 b0 b1 b0' b1' h1 h2
          go_wp2
          go_roundw
          case rel => exact ⟨k + 1, N + 1, by omega, by go_num, by go_num, HN1, by omega, R⟩
          case measure => simp [intOf]; omega
        · go_wp2_with fail
          refine (rBit_any u v k wr hv0 (by omega) (by omega) (by omega)).mono ?_
          rintro e w1 ⟨rfl, hb1⟩
          rw [h1]
          have hz1' := hb1.size
          obtain ⟨b0', b1', _, _⟩ := (hB.below hG.2 (by omega)).below hb1 (by omega)
          go_wp2_with fail
          refine (rBit_any x y N w1 hy0 (by omega) (by omega) (by omega)).mono ?_
          rintro e w2 ⟨rfl, hb2⟩
          rw [h2]
          have hz2' := hb2.size
          have hown2 := ownsRow_below hown (below_two hb1 hb2)
          go_wp2_with (at_builtin; refine wpList_append_own _ rfl _ _ 63 rfl (w.heap.size + 1 + 1 + 1) 5 i0 (.int .u8 0) 1 1 Try.under63 hi hz0 hz1 hz2 rfl (by decide) _ _ _ rfl (hown2.alloc _) ⟨w2.heap.size, 0, none⟩ 1 1 [.int .u8 ((bb true).toNat : Int)] rfl rfl (cell_one_new _ _ _) (by intro x hx; simp at hx; subst hx; rfl) (by unfold maxLen; omega) (by omega) (by simp; omega) ?_; intro v' w' hown' hgrow _)
          have R := rgath_app hG (below_two hb1 hb2) (by simp only [onS, h1, Bool.true_and, ← HN.out, h2]) hown' hgrow
          have HN1 : Hid (N + 1 = ones (bitAt u v) (k + 1)) := by show _ = _; rw [ones, h1, ← HN.out]; rfl
          clear hown' hgrow hown hG hown2 hb1 hb2 a0 a1 b0 b1 b0' b1' h1 h2
          go_wp2
          go_roundw
          case rel => exact ⟨k + 1, N + 1, by omega, by go_num, by go_num, HN1, by omega, R⟩
          case measure => simp [intOf]; omega
    · have hke : k = M + P := by omega
      obtain ⟨g, cap, hr, hg1, hg2, hcap, _, hheld⟩ := own_held hown (by omega)
      rw [hr]
      clear hown
      subst hke
      obtain ⟨kv1, kv2⟩ := half_cv1 (cap := cap) hheld
      have hMc : M ≤ cap := by omega
      obtain ⟨d0, d1, f0, f1⟩ := hR.below hG.2 (by omega)
      go_wp2
      go_region
      go_wp2
      have hst := Boxed.store ⟨d0, d1, f0, f1⟩ (bs (tab (onS (bitAt u v) (bitAt x y)) 0 M)) (bs (tab (onS (bitAt u v) (bitAt x y)) M P))
      have q0 := hst.c0
      have q1 := hst.c1
      exact bodyPost_ret (v := .agg #[.string (bs (tab (onS (bitAt u v) (bitAt x y)) 0 M)), .string (bs (tab (onS (bitAt u v) (bitAt x y)) M P))]) (by simp [results, Try.results25, go_sem, q0, q1]) rfl ⟨rfl,
        ((((R3_below w u v x y).trans (hG.2.mono (by omega))).setCell (by show w.heap.size ≤ w.heap.size + 1 + 1; omega) _).setCell (by show w.heap.size ≤ w.heap.size + 1 + 1; omega) _).drew⟩
end Go.Proofs.Ytfbkjopidjojeaa
