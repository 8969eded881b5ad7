/-
  Walks over package streamsref, part h: Adapts, Size.
-/
import Derived.Test.YtfbkjopidjojeaaRg
namespace Go.Proofs.Ytfbkjopidjojeaa
open Go.RowKit

/-- What Adapts gives. -/
def AdaptIs (f g : Nat → Bool) (e : Ending) : Prop := ∃ r : Bool, e = .returned (.bool r) ∧ Hid (r = true ↔ AdaptsS f g)

set_option maxRecDepth 50000 in
set_option maxHeartbeats 400000 in
theorem rAdapts_any (u v x y : List Bool) (w : World) (hv0 : v ≠ []) (hy0 : y ≠ []) (hu : u.length ≤ 4096) (hv : v.length ≤ 4096) (hx : x.length ≤ 4096) (hy : y.length ≤ 4096) :
    Calls Try.prog 27 #[.agg #[.string (bs u), .string (bs v)], .agg #[.string (bs x), .string (bs y)]] w fun e w' => AdaptIs (bitAt u v) (bitAt x y) e ∧ Below w.heap.size w w' := by
  have hv1 : 0 < v.length := List.length_pos_iff.2 hv0
  have hy1 : 0 < y.length := List.length_pos_iff.2 hy0
  have hiff : Hid _ := adapts_iff (u := u) (x := x) hv0 hy0 (Nat.dvd_mul_right v.length y.length) (Nat.dvd_mul_left y.length v.length) (Nat.mul_pos hv1 hy1)
  have hah : Hid _ := ahead_iff (u := u) (x := x) hv0 hy0 (Nat.dvd_mul_right v.length y.length) (Nat.dvd_mul_left y.length v.length) (Nat.mul_pos hv1 hy1)
  have hA := Q2_a w u v x y
  have hB := Q2_b w u v x y
  obtain ⟨A, hA'⟩ : ∃ A, v.count true * y.length = A := ⟨_, rfl⟩
  obtain ⟨B, hB'⟩ : ∃ B, y.count true * v.length = B := ⟨_, rfl⟩
  rw [dri_int, hA', hB'] at hiff hah
  go_enter Try.func27, Try.ntmps27
  go_wp2_with fail
  refine (rrates_any u v x y (Q2 w u v x y) hv0 hy0 hv hy).mono ?_
  rintro e w1 ⟨rfl, hb1⟩
  rw [Q2_size] at hb1
  have hz1 := hb1.size
  rw [Q2_size] at hz1
  rw [hA', hB']
  obtain ⟨a0, a1, _, _⟩ := hA.below hb1 (by omega)
  obtain ⟨b0, b1, _, _⟩ := hB.below hb1 (by omega)
  go_wp2_with fail
  refine (rAhead_any u v x y w1 hv0 hy0 hu hv hx hy).mono ?_
  rintro e w2 ⟨⟨r, rfl, hr⟩, hb2⟩
  have hb3 := hb1.trans (hb2.mono (by omega))
  clear hb1 hb2 a0 a1 b0 b1
  by_cases hAB : A = B
  · subst hAB
    clear hA' hB'
    go_wp2
    go_ret
    refine ⟨⟨r, rfl, ⟨fun h => hiff.out.1 ⟨by omega, (hah.out.2 (hr.out.1 h)).2⟩, fun h => hr.out.2 h.1⟩⟩, (Q2_below w u v x y).trans (hb3.mono (by omega))⟩
  · have hne : ((A : Int) == (B : Int)) = false := by simp; omega
    clear hA' hB'
    go_wp2
    go_ret
    refine ⟨⟨false, rfl, ⟨fun h => by simp at h, fun h => ?_⟩⟩, (Q2_below w u v x y).trans (hb3.mono (by omega))⟩
    have := (hiff.out.2 h).1
    omega

set_option maxRecDepth 50000 in
set_option maxHeartbeats 1000000 in
theorem rSize_any (u v x y : List Bool) (w : World) (hv0 : v ≠ []) (hy0 : y ≠ []) (hu : u.length ≤ 4096) (hv : v.length ≤ 4096) (hx : x.length ≤ 4096) (hy : y.length ≤ 4096) :
    Calls Try.prog 28 #[.agg #[.string (bs u), .string (bs v)], .agg #[.string (bs x), .string (bs y)]] w fun e w' => e = .returned (.int .i64 (mx (bitAt u v) (bitAt x y) (max u.length x.length + v.length * y.length))) ∧ Below w.heap.size w w' := by
  have hA := Q2_a w u v x y
  have hB := Q2_b w u v x y
  have hPb : v.length * y.length ≤ 4096 * 4096 := Nat.mul_le_mul hv hy
  have hMb : max u.length x.length ≤ 4096 := by omega
  obtain ⟨T, hT⟩ : ∃ T, max u.length x.length + v.length * y.length = T := ⟨_, rfl⟩
  have hTb : T ≤ 33554432 := by omega
  rw [hT]
  clear hPb hMb
  go_enter Try.func28, Try.ntmps28
  go_wp2_with fail
  refine (rturns_any u v x y (Q2 w u v x y) hu hv hx hy).mono ?_
  rintro e w2 ⟨rfl, hb3⟩
  rw [Q2_size] at hb3
  rw [hT]
  clear hT
  go_wp2
  go_loopw [6, 7, 8] (fun d m i wr => ∃ (k : Nat) (c b : Int), k ≤ T ∧ i = .int .i64 k ∧ d = .int .i64 c ∧ m = .int .i64 b ∧ Hid (c = dif (bitAt u v) (bitAt x y) k ∧ b = mx (bitAt u v) (bitAt x y) k) ∧ -(k : Int) ≤ c ∧ c ≤ k ∧ Below (w.heap.size + 1 + 1) (Q2 w u v x y) wr) (fun _ _ i _ => T - (intOf i).toNat)
  case atStart => exact ⟨0, 0, 0, by omega, rfl, rfl, rfl, ⟨rfl, rfl⟩, by omega, by omega, hb3⟩
  case round =>
    obtain ⟨k, c, b, hk, rfl, rfl, rfl, HH, hc0, hc1, hG⟩ := hrel
    have hsz := hG.size
    rw [Q2_size] at hsz
    obtain ⟨a0, a1, _, _⟩ := hA.below hG (by omega)
    obtain ⟨b0, b1, _, _⟩ := hB.below hG (by omega)
    by_cases hltk : k < T
    · have HD : Hid _ := dif_succ (bitAt u v) (bitAt x y) k
      cases h1 : bitAt u v k <;> cases h2 : bitAt x y k
      all_goals
        rw [h1, h2] at HD
        go_wp2_with fail
        refine (rBit_any u v k wr hv0 (by omega) (by omega) (by omega)).mono ?_
        rintro e w4 ⟨rfl, hb4⟩
        rw [h1]
        have hz4 := hb4.size
        obtain ⟨b0', b1', _, _⟩ := (hB.below hG (by omega)).below hb4 (by omega)
        go_wp2_with fail
        refine (rBit_any x y k w4 hy0 (by omega) (by omega) (by omega)).mono ?_
        rintro e w5 ⟨rfl, hb5⟩
        rw [h2]
        have hG2 := hG.trans ((below_two hb4 hb5).mono (by omega))
        obtain ⟨ec, eb⟩ := HH.out
        have ed := HD.out
        simp at ed
        rw [← ec] at ed
        have ED : Hid _ := ed
        have EB : Hid _ := eb
        clear ec ed eb HH HD hb4 hb5 hG a0 a1 b0 b1 b0' b1' h1 h2
        go_wp2_with (go_at_call 42; refine (rgreater_any _ _ _).mono ?_; rintro e w6 ⟨rfl, hw6⟩; subst w6)
        go_roundw
        case rel => exact ⟨k + 1, _, _, by omega, by go_num, rfl, rfl, ⟨by rw [ED.out], by rw [mx, ED.out, ← EB.out]⟩, by omega, by omega, hG2⟩
        case measure => simp [intOf]; omega
    · have hke : k = T := by omega
      subst hke
      obtain ⟨_, eb⟩ := HH.out
      have EB : Hid _ := eb
      clear eb HH
      go_wp2
      go_ret
      exact ⟨ret_int (by rw [EB.out]), (Q2_below w u v x y).trans (hG.mono (by omega))⟩
end Go.Proofs.Ytfbkjopidjojeaa
