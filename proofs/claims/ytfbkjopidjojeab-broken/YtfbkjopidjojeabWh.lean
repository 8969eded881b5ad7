/-
  Walks, part h: On of package word.
-/
import Derived.Test.YtfbkjopidjojeabWg
namespace Go.Proofs.Ytfbkjopidjojeab
open Go.RowKit

/-- Where the rounds of a word on a word begin. -/
def OnL (u v x : List Bool) (L : Nat) : Prop := ∃ k, L = u.length + k * v.length ∧ (0 < v.count true → x.length ≤ u.count true + k * v.count true) ∧ (v.count true = 0 → k = 0)
/-- How long they are. -/
def OnP (v y : List Bool) (P : Nat) : Prop := P = if v.count true = 0 then v.length else Nat.lcm (v.count true) y.length / v.count true * v.length

theorem on_EP {u v x y : List Bool} {L P : Nat} (hv0 : v ≠ []) (hy0 : y ≠ []) (hL : OnL u v x L) (hP : OnP v y P) : EP (onS (bitAt u v) (bitAt x y)) L P := by
  obtain ⟨k, rfl, h1, h0⟩ := hL
  have hP' : P = if v.count true = 0 then v.length else Nat.lcm (v.count true) y.length / v.count true * v.length := hP
  have hf := EP_bitAt u v hv0
  have hg := EP_bitAt x y hy0
  have hr := ones_round u v
  by_cases hc : v.count true = 0
  · rw [if_pos hc] at hP'
    subst hP'
    rw [h0 hc, Nat.zero_mul, Nat.add_zero]
    exact EP_on_none hf (by rw [hr, hc])
  · rw [if_neg hc] at hP'
    subst hP'
    have hc0 : 0 < v.count true := Nat.pos_of_ne_zero hc
    have hy1 : 0 < y.length := List.length_pos_iff.2 hy0
    have ht : Nat.lcm (v.count true) y.length / v.count true * v.count true = Nat.lcm (v.count true) y.length := Nat.div_mul_cancel (Nat.dvd_lcm_left _ _)
    apply EP_on hf hg hr
    · rw [ones_lead]; exact h1 hc0
    · exact Nat.div_pos (Nat.le_of_dvd (Nat.lcm_pos hc0 hy1) (Nat.dvd_lcm_left _ _)) hc0
    · rw [ht]; exact Nat.dvd_lcm_right _ _

theorem onLead_b (u v x y : List Bool) (w : World) (hu : u.length ≤ 1048576) (hv : v.length ≤ 1048576) (hx : x.length ≤ 1048576) :
    Calls Try.prog 97 #[.agg #[.string (bs u), .string (bs v)], .agg #[.string (bs x), .string (bs y)]] w fun e w' =>
      (∃ L : Nat, e = .returned (.int .i64 L) ∧ OnL u v x L ∧ L ≤ 2199023255552) ∧ Below w.heap.size w w' := by
  refine (onLead_any (bs u) (bs v) (bs x) (bs y) w (by rw [bs_size]; exact hu) (by rw [bs_size]; exact hv) (by rw [bs_size]; exact hx)).mono ?_
  rintro e w' ⟨⟨k, rfl, hk, h1, h0⟩, hb⟩
  rw [cn_bs, cn_bs, bs_size] at h1
  rw [cn_bs] at h0
  rw [bs_size] at hk
  refine ⟨⟨u.length + k * v.length, by rw [bs_size, bs_size], ⟨k, rfl, fun h => ?_, fun h => h0 (by rw [h]; rfl)⟩, ?_⟩, hb⟩
  · have := h1 (by omega)
    have e : ((u.count true + k * v.count true : Nat) : Int) = (u.count true : Int) + k * v.count true := by simp
    omega
  · have : k * v.length ≤ 1048576 * 1048576 := Nat.mul_le_mul (by omega) hv
    omega

theorem onRound_b (u v x y : List Bool) (w : World) (hv : v.length ≤ 1048576) (hy : y.length ≤ 1048576) (hv0 : v ≠ []) (hy0 : y ≠ []) :
    Calls Try.prog 98 #[.agg #[.string (bs u), .string (bs v)], .agg #[.string (bs x), .string (bs y)]] w fun e w' =>
      (∃ P : Nat, e = .returned (.int .i64 P) ∧ OnP v y P ∧ 0 < P ∧ P ≤ 1099511627776) ∧ Below w.heap.size w w' := by
  refine (onRound_any (bs u) (bs v) (bs x) (bs y) w (by rw [bs_size]; exact hv) (by rw [bs_size]; exact hy) (v.count true) (cn_bs v)).mono ?_
  rintro e w' ⟨rfl, hb⟩
  have hP : OnP v y (if v.count true = 0 then v.length else Nat.lcm (v.count true) y.length / v.count true * v.length) := rfl
  have hE := on_EP (u := []) (x := []) hv0 hy0 ⟨0, rfl, fun _ => by simp, fun _ => rfl⟩ hP
  refine ⟨⟨_, by rw [bs_size, bs_size], hP, hE.1, ?_⟩, hb⟩
  by_cases hc : v.count true = 0
  · rw [if_pos hc]; omega
  · rw [if_neg hc]
    have : Nat.lcm (v.count true) y.length / v.count true ≤ y.length := by
      apply Nat.le_trans (Nat.div_le_div_right (lcm_le_mul _ _))
      rw [Nat.mul_div_cancel_left _ (Nat.pos_of_ne_zero hc)]; exact Nat.le_refl _
    exact Nat.le_trans (Nat.mul_le_mul this hv) (by omega)

/-- A word on a word: what stream, how long at most. -/
def OnIs (u v x y : List Bool) (e : Ending) : Prop := WordIs (onS (bitAt u v) (bitAt x y)) 2199023255552 1099511627776 e

set_option maxRecDepth 50000 in
set_option maxHeartbeats 1000000 in
theorem On_any (u v x y : List Bool) (w : World) (hv0 : v ≠ []) (hy0 : y ≠ []) (hu : u.length ≤ 1048576) (hv : v.length ≤ 1048576) (hx : x.length ≤ 1048576) (hy : y.length ≤ 1048576) :
    Calls Try.prog 80 #[.agg #[.string (bs u), .string (bs v)], .agg #[.string (bs x), .string (bs y)]] w fun e w' => OnIs u v x y e ∧ Below w.heap.size w w' := by
  obtain ⟨i0, hi, hz0, hz1, hz2⟩ := info_parts Try.info5
  have hA := S3_a w u v x y
  have hB := S3_b w u v x y
  go_enter Try.func80, Try.ntmps80
  go_wp2_with (first
    | (go_at_call 97; refine (onLead_b u v x y (S3 w u v x y) hu hv hx).mono ?_; rintro e w1 ⟨⟨L, rfl, hL, hLb⟩, hb1⟩; rw [S3_size] at hb1; have hz1' := hb1.size; obtain ⟨a0, a1, _, _⟩ := hA.below hb1 (by omega); obtain ⟨b0, b1, _, _⟩ := hB.below hb1 (by omega))
    | (go_at_call 98; refine (onRound_b u v x y w1 hv hy hv0 hy0).mono ?_; rintro e w2 ⟨⟨P, rfl, hP, hP0, hPb⟩, hb2⟩))
  have hb12 : Below (w.heap.size + 1 + 1 + 1) (S3 w u v x y) w2 := hb1.trans (hb2.mono (by rw [S3_size] at hz1'; omega))
  have hz2' := hb12.size
  rw [S3_size] at hz2'
  clear hb1 hb2 hz1' a0 a1 b0 b1
  have hE := on_EP hv0 hy0 hL hP
  go_loopw [7, 8, 9] (fun r nx i wr => ∃ k N : Nat, k ≤ L + P ∧ i = .int .i64 k ∧ nx = .int .i64 N ∧ Hid (N = ones (bitAt u v) k) ∧ N ≤ k ∧ Gath w u v x y (onS (bitAt u v) (bitAt x y)) k r wr) (fun _ _ i _ => L + P - (intOf i).toNat)
  case atStart => exact ⟨0, 0, by omega, rfl, rfl, rfl, by omega, own_start2 _ _ _ rfl (by omega), hb12.alloc (by omega) _⟩
  case round =>
    obtain ⟨k, N, hk, rfl, rfl, HN, hN, hG⟩ := hrel
    have hsz := hG.size
    obtain ⟨a0, a1, _, _⟩ := hA.below hG.2 (by omega)
    obtain ⟨b0, b1, _, _⟩ := hB.below hG.2 (by omega)
    have hown := hG.1
    by_cases hlt : k < L + P
    · cases hbit : bitAt u v k
      · go_wp2_with (first
          | (go_at_call_of 70 (bs u); refine (bit_any u v k wr hv0 (by omega) (by omega) (by omega)).mono ?_; rintro e w1 ⟨rfl, hb1⟩; have hz1' := hb1.size; have hown1 := ownsRow_below hown hb1)
          | (go_at_call 99; refine (digit_any _ _).mono ?_; rintro e w3 ⟨rfl, hw3⟩; subst w3)
          | (at_builtin; refine wpList_append_own _ rfl _ _ 81 rfl (w.heap.size + 1 + 1 + 1) 5 i0 (.int .u8 0) 1 1 Try.under81 hi hz0 hz1 hz2 rfl (by decide) _ _ _ rfl (hown1.alloc _) ⟨w1.heap.size, 0, none⟩ 1 1 [.int .u8 ((bb false).toNat : Int)] rfl rfl (cell_one_new _ _ _) (by intro x hx; simp at hx; subst hx; rfl) (by unfold maxLen; omega) (by omega) (by simp; omega) ?_; intro v' w' hown' hgrow _))
        have R := gath_app hG hb1 (by simp only [onS, hbit, Bool.false_and]) hown' hgrow
        have HN1 : Hid (N = ones (bitAt u v) (k + 1)) := by show _ = _; rw [ones, hbit, ← HN.out]; rfl
        clear hown' hgrow hown hG hown1 hb1 a0 a1 b0 b1
        go_wp2
        go_roundw
        case rel => exact ⟨k + 1, N, by omega, by go_num, rfl, HN1, by omega, R⟩
        case measure => simp [intOf]; omega
      · go_wp2_with (first
          | (go_at_call_of 70 (bs u); refine (bit_any u v k wr hv0 (by omega) (by omega) (by omega)).mono ?_; rintro e w1 ⟨rfl, hb1⟩; have hz1' := hb1.size; obtain ⟨b0', b1', _, _⟩ := (hB.below hG.2 (by omega)).below hb1 (by omega))
          | (go_at_call_of 70 (bs x); refine (bit_any x y N w1 hy0 (by omega) (by omega) (by omega)).mono ?_; rintro e w2 ⟨rfl, hb2⟩; have hz2' := hb2.size; have hown2 := ownsRow_below hown (below_two hb1 hb2))
          | (go_at_call 99; refine (digit_any _ _).mono ?_; rintro e w3 ⟨rfl, hw3⟩; subst w3)
          | (at_builtin; refine wpList_append_own _ rfl _ _ 81 rfl (w.heap.size + 1 + 1 + 1) 5 i0 (.int .u8 0) 1 1 Try.under81 hi hz0 hz1 hz2 rfl (by decide) _ _ _ rfl (hown2.alloc _) ⟨w2.heap.size, 0, none⟩ 1 1 [.int .u8 ((bb (bitAt x y N)).toNat : Int)] rfl rfl (cell_one_new _ _ _) (by intro x hx; simp at hx; subst hx; rfl) (by unfold maxLen; omega) (by omega) (by simp; omega) ?_; intro v' w' hown' hgrow _))
        have R := gath_app hG (below_two hb1 hb2) (by simp only [onS, hbit, Bool.true_and, HN.out]) hown' hgrow
        have HN1 : Hid (N + 1 = ones (bitAt u v) (k + 1)) := by show _ = _; rw [ones, hbit, ← HN.out]; rfl
        clear hown' hgrow hown hG hown2 hb1 hb2 a0 a1 b0 b1 b0' b1'
        go_wp2
        go_roundw
        case rel => exact ⟨k + 1, N + 1, by omega, by go_num, by go_num, HN1, by omega, R⟩
        case measure => simp [intOf]; omega
    · have hke : k = L + P := by omega
      obtain ⟨g, cap, hr, hg1, hg2, hcap, _, hheld⟩ := own_held hown (by omega)
      rw [hr]
      clear hown
      subst hke
      have hbx := (S3_r w u v x y).below hG.2 (by omega)
      go_wp2_with (go_at_call 100; refine (normal_tab (onS (bitAt u v) (bitAt x y)) L P _ g cap wr hE rfl (by omega) hcap hg2 hheld).mono ?_; rintro e w1 ⟨⟨p, q, rfl, hn, hp, hq⟩, hb1⟩; obtain ⟨d0, d1, e0, e1⟩ := hbx.below hb1 (by omega); have hz := hb1.size)
      have hst := (hbx.below hb1 (by omega)).store (bs p) (bs q)
      have q0 := hst.c0
      have q1 := hst.c1
      refine bodyPost_ret (v := .agg #[.string (bs p), .string (bs q)]) (by simp [results, Try.results80, go_sem, q0, q1]) rfl ⟨?_, ?_⟩
      · exact ⟨p, q, rfl, hn, by omega, by omega⟩
      · exact (((((S3_below w u v x y).trans (hG.2.mono (by omega))).trans (hb1.mono (by omega))).setCell (by show w.heap.size ≤ w.heap.size + 1 + 1; omega) _).setCell (by show w.heap.size ≤ w.heap.size + 1 + 1; omega) _)
end Go.Proofs.Ytfbkjopidjojeab
