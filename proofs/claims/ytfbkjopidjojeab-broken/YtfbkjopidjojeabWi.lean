/-
  Walks, part i: gaps, Ahead, Size of package word.
-/
import Derived.Test.YtfbkjopidjojeabWh
import Derived.Test.YtfbkjopidjojeabMd
import Derived.Deep.RegionHeld3
namespace Go.Proofs.Ytfbkjopidjojeab
open Go.RowKit

/-- The world behind two boxes. -/
def S2 (w : World) (u v x y : List Bool) : World := (w.alloc (Obj.cells #[Value.string (bs u), Value.string (bs v)] 74)).alloc (Obj.cells #[Value.string (bs x), Value.string (bs y)] 74)
theorem S2_size (w : World) (u v x y : List Bool) : (S2 w u v x y).heap.size = w.heap.size + 1 + 1 := by simp [S2]
theorem S2_below (w : World) (u v x y : List Bool) : Below w.heap.size w (S2 w u v x y) := ((Below.refl w.heap.size w).alloc (Nat.le_refl _) _).alloc (by simp) _
theorem S2_a (w : World) (u v x y : List Bool) : Boxed (S2 w u v x y) w.heap.size (bs u) (bs v) := (Boxed.new w _ (bs u) (bs v) _ rfl).alloc _
theorem S2_b (w : World) (u v x y : List Bool) : Boxed (S2 w u v x y) (w.heap.size + 1) (bs x) (bs y) := Boxed.new _ _ (bs x) (bs y) _ (by simp)

theorem below_undrew {W w1 : World} (h : Below W.drew.heap.size W.drew w1) : Below W.heap.size W w1 := ⟨h.os, h.tape, h.output, h.size, h.block⟩

set_option maxRecDepth 50000 in
set_option maxHeartbeats 1000000 in
theorem gaps_any (u v x y : List Bool) (w : World) (hv0 : v ≠ []) (hy0 : y ≠ []) (hu : u.length ≤ 1048576) (hv : v.length ≤ 1048576) (hx : x.length ≤ 1048576) (hy : y.length ≤ 1048576) :
    Calls Try.prog 75 #[.agg #[.string (bs u), .string (bs v)], .agg #[.string (bs x), .string (bs y)]] w fun e w' =>
      e = .returned (.tuple #[.int .i64 (mn (bitAt u v) (bitAt x y) (max u.length x.length + Nat.lcm v.length y.length)), .int .i64 (mx (bitAt u v) (bitAt x y) (max u.length x.length + Nat.lcm v.length y.length))]) ∧ Below w.heap.size w w' := by
  have hP : Nat.lcm v.length y.length ≤ 1048576 * 1048576 := Nat.le_trans (lcm_le_mul _ _) (Nat.mul_le_mul hv hy)
  have hM : max u.length x.length ≤ 1048576 := by omega
  have s1 : (bs u).size = u.length := bs_size u
  have s2 : (bs v).size = v.length := bs_size v
  have s3 : (bs x).size = x.length := bs_size x
  have s4 : (bs y).size = y.length := bs_size y
  obtain ⟨L, hL⟩ : ∃ L, max u.length x.length = L := ⟨_, rfl⟩
  obtain ⟨P, hPe⟩ : ∃ P, Nat.lcm v.length y.length = P := ⟨_, rfl⟩
  rw [hPe] at hP
  rw [hL] at hM
  rw [hL, hPe]
  have hA := S2_a w u v x y
  have hB := S2_b w u v x y
  go_enter Try.func75, Try.ntmps75
  go_wp2
  go_region_held3 (fun w' => w'.cell? ⟨w.heap.size, 0, none⟩ = some (.string (bs u)) ∧ w'.cell? ⟨w.heap.size, 1, none⟩ = some (.string (bs v)) ∧ w'.cell? ⟨w.heap.size + 1, 0, none⟩ = some (.string (bs x)) ∧ w'.cell? ⟨w.heap.size + 1, 1, none⟩ = some (.string (bs y))) (go_keep)
    (first
      | (go_at_call 91; refine (bothLead_any (bs u) (bs v) (bs x) (bs y) _ (by omega) (by omega)).mono ?_; rintro e w1 ⟨rfl, hb1⟩; have hb1' := below_undrew (W := S2 w u v x y) hb1; rw [S2_size] at hb1'; have hz1' := hb1'.size; obtain ⟨a0, a1, _, _⟩ := hA.below hb1' (by omega); obtain ⟨b0, b1, _, _⟩ := hB.below hb1' (by omega))
      | (go_at_call 92; refine (bothRound_any (bs u) (bs v) (bs x) (bs y) _ (by omega) (by omega)).mono ?_; rintro e w2 ⟨rfl, hb2⟩; have hb2' := hb1'.trans (hb2.mono (by rw [S2_size] at hz1'; omega)); obtain ⟨a2, a3, _, _⟩ := hA.below hb2' (by omega); obtain ⟨b2, b3, _, _⟩ := hB.below hb2' (by omega)))
  clear a0 a1 b0 b1 a2 a3 b2 b3 hb1 hb2 hb1' hz1'
  have hz2' := hb2'.size
  rw [S2_size] at hz2'
  go_wp2
  go_loopw [7, 8, 9, 10] (fun l m g i wr => ∃ (k : Nat) (a b c : Int), k ≤ L + P ∧ i = .int .i64 k ∧ l = .int .i64 a ∧ m = .int .i64 b ∧ g = .int .i64 c ∧ Hid (a = mn (bitAt u v) (bitAt x y) k ∧ b = mx (bitAt u v) (bitAt x y) k ∧ c = dif (bitAt u v) (bitAt x y) k) ∧ -(k : Int) ≤ c ∧ c ≤ k ∧ Below (w.heap.size + 1 + 1) (S2 w u v x y) wr) (fun _ _ _ i _ => L + P - (intOf i).toNat)
  case atStart => exact ⟨0, 0, 0, 0, by omega, rfl, rfl, rfl, rfl, ⟨rfl, rfl, rfl⟩, by omega, by omega, hb2'⟩
  case round =>
    obtain ⟨k, a, b, c, hk, rfl, rfl, rfl, rfl, HH, hc1, hc2, hG⟩ := hrel
    have hsz := hG.size
    rw [S2_size] at hsz
    obtain ⟨a0, a1, _, _⟩ := hA.below hG (by omega)
    obtain ⟨b0, b1, _, _⟩ := hB.below hG (by omega)
    by_cases hlt : k < L + P
    · have hd := dif_succ (bitAt u v) (bitAt x y) k
      have HD : Hid (dif (bitAt u v) (bitAt x y) (k + 1) = dif (bitAt u v) (bitAt x y) k + (bitAt u v k).toNat - (bitAt x y k).toNat) := hd
      clear hd
      cases hbit : bitAt u v k <;> cases hbit2 : bitAt x y k
      all_goals
        go_wp2_with (first
          | (go_at_call_of 70 (bs u); refine (bit_any u v k wr hv0 (by omega) (by omega) (by omega)).mono ?_; rintro e w1 ⟨rfl, hb1⟩; have hz1' := hb1.size; obtain ⟨b0', b1', _, _⟩ := (hB.below hG (by omega)).below hb1 (by omega))
          | (go_at_call_of 70 (bs x); refine (bit_any x y k w1 hy0 (by omega) (by omega) (by omega)).mono ?_; rintro e w2 ⟨rfl, hb2⟩; have hG2 := hG.trans ((below_two hb1 hb2).mono (by omega))))
      all_goals
        go_roundw
        case rel =>
          refine ⟨k + 1, _, _, _, by omega, by go_num, rfl, rfl, rfl, ?_, by omega, by omega, hG2⟩
          obtain ⟨ea, eb, ec⟩ := HH.out
          have ed := HD.out
          rw [hbit, hbit2] at ed
          simp at ed
          refine ⟨?_, ?_, ?_⟩
          · rw [mn, ed, ← ea, ← ec]; omega
          · rw [mx, ed, ← eb, ← ec]; omega
          · rw [ed, ← ec]
        case measure => simp [intOf]; omega
    · have hke : k = L + P := by omega
      obtain ⟨ea, eb, _⟩ := HH.out
      subst hke
      have EA : Hid (a = mn (bitAt u v) (bitAt x y) (L + P)) := ea
      have EB : Hid (b = mx (bitAt u v) (bitAt x y) (L + P)) := eb
      clear ea eb HH
      go_wp2
      go_ret2
      exact ⟨by rw [← EA.out, ← EB.out]; rfl, (S2_below w u v x y).trans (hG.mono (by omega))⟩

/-- What Ahead gives. -/
def AheadIs (f g : Nat → Bool) (e : Ending) : Prop := ∃ r : Bool, e = .returned (.bool r) ∧ Hid (r = true ↔ AheadS f g)

theorem drift_b (u v x y : List Bool) (w : World) (hv : v.length ≤ 1048576) (hy : y.length ≤ 1048576) :
    Calls Try.prog 74 #[.agg #[.string (bs u), .string (bs v)], .agg #[.string (bs x), .string (bs y)]] w fun e w' => e = .returned (.int .i64 (dri v y)) ∧ Below w.heap.size w w' := by
  refine (drift_any (bs u) (bs v) (bs x) (bs y) w (by rw [bs_size]; exact hv) (by rw [bs_size]; exact hy)).mono ?_
  rintro e w' ⟨rfl, hb⟩
  exact ⟨ret_int (by rw [cn_bs, cn_bs, bs_size, bs_size]; rfl), hb⟩

/-- What Size gives. -/
def SizeIs (f g : Nat → Bool) (e : Ending) : Prop := ∃ (s : Int) (r : Bool), e = .returned (.tuple #[.int .i64 s, .bool r]) ∧ Hid ((r = true ↔ AdaptsS f g) ∧ (r = true → Most f g s) ∧ (r = false → s = 0))

set_option maxRecDepth 50000 in
set_option maxHeartbeats 400000 in
theorem Size_any (u v x y : List Bool) (w : World) (hv0 : v ≠ []) (hy0 : y ≠ []) (hu : u.length ≤ 1048576) (hv : v.length ≤ 1048576) (hx : x.length ≤ 1048576) (hy : y.length ≤ 1048576) :
    Calls Try.prog 55 #[.agg #[.string (bs u), .string (bs v)], .agg #[.string (bs x), .string (bs y)]] w fun e w' => SizeIs (bitAt u v) (bitAt x y) e ∧ Below w.heap.size w w' := by
  have hiff : Hid _ := adapts_iff (u := u) (x := x) hv0 hy0 (Nat.dvd_lcm_left v.length y.length) (Nat.dvd_lcm_right v.length y.length) (Nat.lcm_pos (List.length_pos_iff.2 hv0) (List.length_pos_iff.2 hy0))
  have hmost : Hid _ := most_of (u := u) (x := x) hv0 hy0 (Nat.dvd_lcm_left v.length y.length) (Nat.dvd_lcm_right v.length y.length) (Nat.lcm_pos (List.length_pos_iff.2 hv0) (List.length_pos_iff.2 hy0))
  obtain ⟨D, hD⟩ : ∃ D, dri v y = D := ⟨_, rfl⟩
  obtain ⟨A, hA'⟩ : ∃ A, mn (bitAt u v) (bitAt x y) (max u.length x.length + Nat.lcm v.length y.length) = A := ⟨_, rfl⟩
  obtain ⟨S, hS'⟩ : ∃ S, mx (bitAt u v) (bitAt x y) (max u.length x.length + Nat.lcm v.length y.length) = S := ⟨_, rfl⟩
  rw [hD, hA'] at hiff
  rw [hS'] at hmost
  have hA := S2_a w u v x y
  have hB := S2_b w u v x y
  go_enter Try.func55, Try.ntmps55
  go_wp2_with (first
    | (go_at_call 74; refine (drift_b u v x y (S2 w u v x y) hv hy).mono ?_; rintro e w1 ⟨rfl, hb1⟩; rw [S2_size] at hb1; have hz1' := hb1.size; obtain ⟨a0, a1, _, _⟩ := hA.below hb1 (by omega); obtain ⟨b0, b1, _, _⟩ := hB.below hb1 (by omega))
    | (go_at_call 75; refine (gaps_any u v x y w1 hv0 hy0 hu hv hx hy).mono ?_; rintro e w2 ⟨rfl, hb2⟩))
  · have hd : (D != 0) = true := by assumption
    go_ret2
    have hno : ¬ AdaptsS (bitAt u v) (bitAt x y) := fun h => by have := (hiff.out.2 h).1; simp [this] at hd
    exact ⟨⟨0, false, rfl, ⟨⟨fun h => by simp at h, fun h => absurd h hno⟩, fun h => by simp at h, fun _ => rfl⟩⟩, (S2_below w u v x y).trans (hb1.mono (by omega))⟩
  · have hd : A < 0 := by assumption
    go_ret2
    have hno : ¬ AdaptsS (bitAt u v) (bitAt x y) := fun h => by have := (hiff.out.2 h).2; omega
    exact ⟨⟨0, false, rfl, ⟨⟨fun h => by simp at h, fun h => absurd h hno⟩, fun h => by simp at h, fun _ => rfl⟩⟩, ((S2_below w u v x y).trans (hb1.mono (by omega))).trans (hb2.mono (by rw [S2_size] at hz1'; omega))⟩
  · have hd : (D != 0) = false := by assumption
    go_ret2
    have hyes : AdaptsS (bitAt u v) (bitAt x y) := hiff.out.1 ⟨by simpa using hd, by omega⟩
    exact ⟨⟨S, true, rfl, ⟨⟨fun _ => hyes, fun _ => rfl⟩, fun _ => hmost.out hyes, fun h => by simp at h⟩⟩, ((S2_below w u v x y).trans (hb1.mono (by omega))).trans (hb2.mono (by rw [S2_size] at hz1'; omega))⟩
end Go.Proofs.Ytfbkjopidjojeab
