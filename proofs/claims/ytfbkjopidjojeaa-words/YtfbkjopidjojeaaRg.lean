/-
  Walks over package streamsref, part g: rates, turns, Ahead, Adapts, Size.
-/
import Derived.Test.YtfbkjopidjojeaaRf
namespace Go.Proofs.Ytfbkjopidjojeaa
open Go.RowKit

/-- The world behind two boxes. -/
def Q2 (w : World) (u v x y : List Bool) : World := (w.alloc (Obj.cells #[Value.string (bs u), Value.string (bs v)] 39)).alloc (Obj.cells #[Value.string (bs x), Value.string (bs y)] 39)
theorem Q2_size (w : World) (u v x y : List Bool) : (Q2 w u v x y).heap.size = w.heap.size + 1 + 1 := by simp [Q2]
theorem Q2_below (w : World) (u v x y : List Bool) : Below w.heap.size w (Q2 w u v x y) := ((Below.refl w.heap.size w).alloc (Nat.le_refl _) _).alloc (by simp) _
theorem Q2_a (w : World) (u v x y : List Bool) : Boxed (Q2 w u v x y) w.heap.size (bs u) (bs v) := (Boxed.new w _ (bs u) (bs v) _ rfl).alloc _
theorem Q2_b (w : World) (u v x y : List Bool) : Boxed (Q2 w u v x y) (w.heap.size + 1) (bs x) (bs y) := Boxed.new _ _ (bs x) (bs y) _ (by simp)
/-- .. and two more, that have the second parts alone. -/
def Q4 (w : World) (u v x y : List Bool) : World := ((Q2 w u v x y).alloc (Obj.cells #[Value.string ⟨#[]⟩, Value.string (bs v)] 39)).alloc (Obj.cells #[Value.string ⟨#[]⟩, Value.string (bs y)] 39)
theorem Q4_size (w : World) (u v x y : List Bool) : (Q4 w u v x y).heap.size = w.heap.size + 1 + 1 + 1 + 1 := by simp [Q4, Q2]
theorem Q4_below (w : World) (u v x y : List Bool) : Below w.heap.size w (Q4 w u v x y) := ((Q2_below w u v x y).alloc (by rw [Q2_size]; omega) _).alloc (by simp [Q2]; omega) _
theorem Q4_a (w : World) (u v x y : List Bool) : Boxed (Q4 w u v x y) w.heap.size (bs u) (bs v) := ((Q2_a w u v x y).alloc _).alloc _
theorem Q4_b (w : World) (u v x y : List Bool) : Boxed (Q4 w u v x y) (w.heap.size + 1) (bs x) (bs y) := ((Q2_b w u v x y).alloc _).alloc _
theorem Q4_d (w : World) (u v x y : List Bool) : Boxed (Q4 w u v x y) (w.heap.size + 1 + 1 + 1) ⟨#[]⟩ (bs y) := Boxed.new _ _ _ _ _ (by simp [Q2])

theorem ones_only (v : List Bool) : ones (bitAt [] v) v.length = v.count true := by
  have := ones_round [] v
  simpa using this

theorem rOnes_nil (v : List Bool) (n : Nat) (w : World) (hv0 : v ≠ []) (hv : v.length ≤ 1048576) (hn : n = v.length) :
    Calls Try.prog 61 #[.agg #[.string ⟨#[]⟩, .string (bs v)], .int .i64 n] w fun e w' => e = .returned (.int .i64 (v.count true : Nat)) ∧ Below w.heap.size w w' := by
  subst hn
  have := rOnes_any [] v v.length w hv0 (by simp) hv (by omega)
  rw [ones_only] at this
  exact this

set_option maxRecDepth 50000 in
set_option maxHeartbeats 400000 in
theorem rrates_any (u v x y : List Bool) (w : World) (hv0 : v ≠ []) (hy0 : y ≠ []) (hv : v.length ≤ 4096) (hy : y.length ≤ 4096) :
    Calls Try.prog 44 #[.agg #[.string (bs u), .string (bs v)], .agg #[.string (bs x), .string (bs y)]] w fun e w' => e = .returned (.tuple #[.int .i64 ((v.count true * y.length : Nat) : Int), .int .i64 ((y.count true * v.length : Nat) : Int)]) ∧ Below w.heap.size w w' := by
  have s2 : (bs v).size = v.length := bs_size v
  have s4 : (bs y).size = y.length := bs_size y
  have hA := Q4_a w u v x y
  have hB := Q4_b w u v x y
  have hD := Q4_d w u v x y
  have c1 : v.count true ≤ 4096 := Nat.le_trans List.count_le_length hv
  have c2 : y.count true ≤ 4096 := Nat.le_trans List.count_le_length hy
  have m1 : v.count true * y.length ≤ 4096 * 4096 := Nat.mul_le_mul c1 hy
  have m2 : y.count true * v.length ≤ 4096 * 4096 := Nat.mul_le_mul c2 hv
  have e1 : (v.count true : Int) * (y.length : Int) = ((v.count true * y.length : Nat) : Int) := by simp
  have e2 : (y.count true : Int) * (v.length : Int) = ((y.count true * v.length : Nat) : Int) := by simp
  obtain ⟨A, hA'⟩ : ∃ A, v.count true * y.length = A := ⟨_, rfl⟩
  obtain ⟨B, hB'⟩ : ∃ B, y.count true * v.length = B := ⟨_, rfl⟩
  rw [hA'] at m1 e1 ⊢
  rw [hB'] at m2 e2 ⊢
  clear hA' hB'
  obtain ⟨a, ha⟩ : ∃ a, v.count true = a := ⟨_, rfl⟩
  obtain ⟨b, hb⟩ : ∃ b, y.count true = b := ⟨_, rfl⟩
  rw [ha] at e1 c1
  rw [hb] at e2 c2
  go_enter Try.func44, Try.ntmps44
  go_wp2_with fail
  refine (rOnes_nil v _ (Q4 w u v x y) hv0 (by omega) rfl).mono ?_
  rintro e w1 ⟨rfl, hb1⟩
  rw [Q4_size] at hb1
  have hz1 := hb1.size
  rw [Q4_size] at hz1
  obtain ⟨a0, a1, _, _⟩ := hA.below hb1 (by omega)
  obtain ⟨b0, b1, _, _⟩ := hB.below hb1 (by omega)
  obtain ⟨d0, d1, _, _⟩ := hD.below hb1 (by omega)
  go_wp2_with fail
  refine (rOnes_nil y _ w1 hy0 (by omega) rfl).mono ?_
  rintro e w2 ⟨rfl, hb2⟩
  have hb3 := hb1.trans (hb2.mono (by omega))
  obtain ⟨a2, a3, _, _⟩ := hA.below hb3 (by omega)
  obtain ⟨b2, b3, _, _⟩ := hB.below hb3 (by omega)
  clear hb2 a0 a1 b0 b1 d0 d1
  go_wp2
  go_quiet (fail)
  go_wp2
  go_ret2
  exact ⟨rfl, below_drewN ((Q4_below w u v x y).trans (hb3.mono (by omega))) _⟩

set_option maxRecDepth 50000 in
set_option maxHeartbeats 400000 in
theorem rturns_any (u v x y : List Bool) (w : World) (hu : u.length ≤ 4096) (hv : v.length ≤ 4096) (hx : x.length ≤ 4096) (hy : y.length ≤ 4096) :
    Calls Try.prog 45 #[.agg #[.string (bs u), .string (bs v)], .agg #[.string (bs x), .string (bs y)]] w fun e w' => e = .returned (.int .i64 ((max u.length x.length + v.length * y.length : Nat) : Int)) ∧ Below w.heap.size w w' := by
  have s1 : (bs u).size = u.length := bs_size u
  have s2 : (bs v).size = v.length := bs_size v
  have s3 : (bs x).size = x.length := bs_size x
  have s4 : (bs y).size = y.length := bs_size y
  have hPb : v.length * y.length ≤ 4096 * 4096 := Nat.mul_le_mul hv hy
  have hMb : max u.length x.length ≤ 4096 := by omega
  have hMi : max (u.length : Int) (x.length : Int) = ((max u.length x.length : Nat) : Int) := by omega
  have hPi : (v.length : Int) * (y.length : Int) = ((v.length * y.length : Nat) : Int) := by simp
  obtain ⟨M, hM⟩ : ∃ M, max u.length x.length = M := ⟨_, rfl⟩
  obtain ⟨P, hP⟩ : ∃ P, v.length * y.length = P := ⟨_, rfl⟩
  rw [hM] at hMb hMi ⊢
  rw [hP] at hPb hPi ⊢
  clear hM hP
  go_enter Try.func45, Try.ntmps45
  go_wp2
  go_quiet ((go_at_call 42; exact Calls.quiet_of_same (rgreater_any _ _ _)))
  go_wp2
  go_ret
  exact ⟨ret_int (by omega), below_drewN (Q2_below w u v x y) _⟩

theorem dif_first (f g : Nat → Bool) : ∀ i, i ≤ 0 → 0 ≤ dif f g i := by
  intro i h
  have : i = 0 := by omega
  subst this; exact Int.le_refl _
theorem mn_nonneg {f g : Nat → Bool} {n : Nat} (h : ∀ i, i ≤ n → 0 ≤ dif f g i) : 0 ≤ mn f g n := by
  obtain ⟨i, hi, e⟩ := mn_at f g n
  rw [e]; exact h i hi
theorem dri_int (v y : List Bool) : dri v y = ((v.count true * y.length : Nat) : Int) - ((y.count true * v.length : Nat) : Int) := by unfold dri; simp

set_option maxRecDepth 50000 in
set_option maxHeartbeats 1000000 in
theorem rAhead_any (u v x y : List Bool) (w : World) (hv0 : v ≠ []) (hy0 : y ≠ []) (hu : u.length ≤ 4096) (hv : v.length ≤ 4096) (hx : x.length ≤ 4096) (hy : y.length ≤ 4096) :
    Calls Try.prog 26 #[.agg #[.string (bs u), .string (bs v)], .agg #[.string (bs x), .string (bs y)]] w fun e w' => AheadIs (bitAt u v) (bitAt x y) e ∧ Below w.heap.size w w' := by
  have hv1 : 0 < v.length := List.length_pos_iff.2 hv0
  have hy1 : 0 < y.length := List.length_pos_iff.2 hy0
  have hiff : Hid _ := ahead_iff (u := u) (x := x) hv0 hy0 (Nat.dvd_mul_right v.length y.length) (Nat.dvd_mul_left y.length v.length) (Nat.mul_pos hv1 hy1)
  have hA := Q2_a w u v x y
  have hB := Q2_b w u v x y
  have hPb : v.length * y.length ≤ 4096 * 4096 := Nat.mul_le_mul hv hy
  have hMb : max u.length x.length ≤ 4096 := by omega
  obtain ⟨A, hA'⟩ : ∃ A, v.count true * y.length = A := ⟨_, rfl⟩
  obtain ⟨B, hB'⟩ : ∃ B, y.count true * v.length = B := ⟨_, rfl⟩
  rw [dri_int, hA', hB'] at hiff
  obtain ⟨T, hT⟩ : ∃ T, max u.length x.length + v.length * y.length = T := ⟨_, rfl⟩
  rw [hT] at hiff
  have hTb : T ≤ 33554432 := by omega
  clear hPb hMb
  go_enter Try.func26, Try.ntmps26
  go_wp2_with fail
  refine (rrates_any u v x y (Q2 w u v x y) hv0 hy0 hv hy).mono ?_
  rintro e w1 ⟨rfl, hb1⟩
  rw [Q2_size] at hb1
  have hz1 := hb1.size
  rw [Q2_size] at hz1
  rw [hA', hB']
  obtain ⟨a0, a1, _, _⟩ := hA.below hb1 (by omega)
  obtain ⟨b0, b1, _, _⟩ := hB.below hb1 (by omega)
  by_cases hlt : A < B
  · go_wp2
    go_ret
    exact ⟨⟨false, rfl, ⟨fun h => by simp at h, fun h => by have := (hiff.out.2 h).1; omega⟩⟩, (Q2_below w u v x y).trans (hb1.mono (by omega))⟩
  go_wp2_with fail
  refine (rturns_any u v x y w1 hu hv hx hy).mono ?_
  rintro e w2 ⟨rfl, hb2⟩
  have hb3 := hb1.trans (hb2.mono (by omega))
  rw [hT]
  clear hb1 hb2 a0 a1 b0 b1 hT hA' hB'
  go_wp2
  go_loopw [8, 9] (fun d i wr => ∃ (k : Nat) (c : Int), k ≤ T ∧ i = .int .i64 k ∧ d = .int .i64 c ∧ Hid (c = dif (bitAt u v) (bitAt x y) k ∧ ∀ i, i ≤ k → 0 ≤ dif (bitAt u v) (bitAt x y) i) ∧ 0 ≤ c ∧ c ≤ k ∧ Below (w.heap.size + 1 + 1) (Q2 w u v x y) wr) (fun _ i _ => T - (intOf i).toNat)
  case atStart => exact ⟨0, 0, by omega, rfl, rfl, ⟨rfl, dif_first _ _⟩, by omega, by omega, hb3⟩
  case round =>
    obtain ⟨k, c, hk, rfl, rfl, HH, hc0, hc1, hG⟩ := hrel
    have hsz := hG.size
    rw [Q2_size] at hsz
    obtain ⟨a0, a1, _, _⟩ := hA.below hG (by omega)
    obtain ⟨b0, b1, _, _⟩ := hB.below hG (by omega)
    by_cases hltk : k < T
    · have HD : Hid _ := dif_succ (bitAt u v) (bitAt x y) k
      cases h1 : bitAt u v k <;> cases h2 : bitAt x y k
      all_goals
        rw [h1, h2] at HD
        go_wp2_with fail
        refine (rBit_any u v k wr hv0 (by omega) (by omega) (by omega)).mono ?_
        rintro e w4 ⟨rfl, hb4⟩
        rw [h1]
        have hz4 := hb4.size
        obtain ⟨b0', b1', _, _⟩ := (hB.below hG (by omega)).below hb4 (by omega)
        go_wp2_with fail
        refine (rBit_any x y k w4 hy0 (by omega) (by omega) (by omega)).mono ?_
        rintro e w5 ⟨rfl, hb5⟩
        rw [h2]
        have hG2 := hG.trans ((below_two hb4 hb5).mono (by omega))
        obtain ⟨ec, hall⟩ := HH.out
        have ed := HD.out
        simp at ed
        rw [← ec] at ed
        have hnx : 0 ≤ dif (bitAt u v) (bitAt x y) (k + 1) → Hid (∀ i, i ≤ k + 1 → 0 ≤ dif (bitAt u v) (bitAt x y) i) := fun h i hi => by
          rcases Nat.lt_or_ge k i with g | g
          · have : i = k + 1 := by omega
            subst this; exact h
          · exact hall i g
        have ED : Hid _ := ed
        have HX : Hid _ := hnx
        clear ec hall ed hnx HH HD hb4 hb5 hG a0 a1 b0 b1 b0' b1' h1 h2
        go_wp2
        all_goals first
          | (go_roundw
             case rel => exact ⟨k + 1, _, by omega, by go_num, rfl, ⟨by rw [ED.out], (HX.out (by rw [ED.out]; omega)).out⟩, by omega, by omega, hG2⟩
             case measure => simp [intOf]; omega)
          | (go_ret
             exact ⟨⟨false, rfl, ⟨fun h => by simp at h, fun h => by have := h (k + 1); rw [ED.out] at this; omega⟩⟩, (Q2_below w u v x y).trans (hG2.mono (by omega))⟩)
    · have hke : k = T := by omega
      subst hke
      go_wp2
      go_ret
      exact ⟨⟨true, rfl, ⟨fun _ => hiff.out.1 ⟨by omega, mn_nonneg HH.out.2⟩, fun _ => rfl⟩⟩, (Q2_below w u v x y).trans (hG.mono (by omega))⟩
end Go.Proofs.Ytfbkjopidjojeaa
