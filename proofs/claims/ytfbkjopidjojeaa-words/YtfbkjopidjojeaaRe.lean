/-
  Walks over package streamsref, part e: Either, On.
-/
import Derived.Test.YtfbkjopidjojeaaRd
namespace Go.Proofs.Ytfbkjopidjojeaa
open Go.RowKit

/-- The world behind two boxes and a place for the result. -/
def R3 (w : World) (u v x y : List Bool) : World := ((w.alloc (Obj.cells #[Value.string (bs u), Value.string (bs v)] 39)).alloc (Obj.cells #[Value.string (bs x), Value.string (bs y)] 39)).alloc (Obj.cells #[Value.string ⟨#[]⟩, Value.string ⟨#[]⟩] 39)
theorem R3_size (w : World) (u v x y : List Bool) : (R3 w u v x y).heap.size = w.heap.size + 1 + 1 + 1 := by simp [R3]
theorem R3_below (w : World) (u v x y : List Bool) : Below w.heap.size w (R3 w u v x y) := (((Below.refl w.heap.size w).alloc (Nat.le_refl _) _).alloc (by simp) _).alloc (by simp; omega) _
theorem R3_a (w : World) (u v x y : List Bool) : Boxed (R3 w u v x y) w.heap.size (bs u) (bs v) := ((Boxed.new w _ (bs u) (bs v) _ rfl).alloc _).alloc _
theorem R3_b (w : World) (u v x y : List Bool) : Boxed (R3 w u v x y) (w.heap.size + 1) (bs x) (bs y) := (Boxed.new _ _ (bs x) (bs y) _ (by simp)).alloc _
theorem R3_r (w : World) (u v x y : List Bool) : Boxed (R3 w u v x y) (w.heap.size + 1 + 1) ⟨#[]⟩ ⟨#[]⟩ := Boxed.new _ _ _ _ _ (by simp)

theorem EP_or_mul {f g : Nat → Bool} {m m' p q : Nat} (hf : EP f m p) (hg : EP g m' q) : EP (fun n => f n || g n) (max m m') (p * q) := by
  refine ⟨Nat.mul_pos hf.1 hg.1, fun n hn => ?_⟩
  have e1 := hf.mul q n (by omega)
  have e2 := hg.mul p n (by omega)
  rw [Nat.mul_comm] at e1
  simp only [e1, e2]
theorem EP_on_mul {u v x y : List Bool} (hv0 : v ≠ []) (hy0 : y ≠ []) : EP (onS (bitAt u v) (bitAt x y)) (u.length + v.length * x.length) (v.length * y.length) := by
  have hf := EP_bitAt u v hv0
  have hg := EP_bitAt x y hy0
  have hr := ones_round u v
  have hy1 : 0 < y.length := List.length_pos_iff.2 hy0
  rw [Nat.mul_comm v.length x.length, Nat.mul_comm v.length y.length]
  by_cases hc : v.count true = 0
  · have h0 := EP_on_none (g := bitAt x y) hf (by rw [hr, hc])
    exact ⟨Nat.mul_pos hy1 hf.1, fun n hn => h0.mul y.length n (by omega)⟩
  · apply EP_on hf hg hr
    · have : x.length * 1 ≤ x.length * v.count true := Nat.mul_le_mul_left _ (Nat.pos_of_ne_zero hc)
      omega
    · exact hy1
    · exact ⟨v.count true, rfl⟩

/-- What the loops keep. -/
def RGath (w : World) (u v x y : List Bool) (f : Nat → Bool) (k : Nat) (r : Value) (wr : World) : Prop :=
  wr.ownsRow (w.heap.size + 1 + 1 + 1) 5 1 r k (cellsOf (tab f 0 k)) ∧ Below (w.heap.size + 1 + 1 + 1) (R3 w u v x y) wr
theorem RGath.size {w wr : World} {u v x y : List Bool} {f : Nat → Bool} {k : Nat} {r : Value} (h : RGath w u v x y f k r wr) : w.heap.size + 1 + 1 + 1 ≤ wr.heap.size := by
  have := h.2.size; rw [R3_size] at this; exact this
theorem rgath_app {w wr w1 w' : World} {u v x y : List Bool} {f : Nat → Bool} {k : Nat} {r v' : Value} {z : Bool} {o : Obj} (h : RGath w u v x y f k r wr) (hb1 : Below wr.heap.size wr w1)
    (hx : z = f k) (hown' : w'.ownsRow (w.heap.size + 1 + 1 + 1) 5 1 v' (k + 1) (cellsOf (tab f 0 k) ++ [.int .u8 ((bb z).toNat : Int)])) (hg : (w1.alloc o).grownBy w' r.ownBlock) :
    RGath w u v x y f (k + 1) v' w' := rel_app h.size h.1 h.2 hb1 hx hown' hg

/-- The two halves of a row, as strings. -/
theorem half_cv {w : World} {f : Nat → Bool} {g cap m p : Nat} (h : Held w g 0 (tab f 0 (m + p))) :
    (∀ n, (convert 63 9 (.slice (some ⟨g, 0, none⟩) m cap)).run Try.prog (w.drewN n) = .ok (.string (bs (tab f 0 m))) (w.drewN n)) ∧
    (∀ n, (convert 63 9 (.slice (some ⟨g, m, none⟩) p (cap - m))).run Try.prog (w.drewN n) = .ok (.string (bs (tab f m p))) (w.drewN n)) := by
  have a1 : (tab f 0 (m + p)).take m = tab f 0 m := by
    have := tab_eq (f := f) (l := tab f 0 (m + p)) (a := 0) (k := m) (fun i hi => by rw [tab_getD _ _ _ _ (by omega)]; simp) (by rw [tab_length]; omega)
    rw [List.drop_zero] at this; exact this.symm
  have a2 : (tab f 0 (m + p)).drop m = tab f m p := by
    have := tab_eq (f := f) (l := tab f 0 (m + p)) (a := m) (k := p) (fun i hi => by rw [tab_getD _ _ _ _ (by omega)]; simp) (by rw [tab_length]; omega)
    rw [this, List.take_of_length_le (by rw [List.length_drop, tab_length]; omega)]
  constructor
  · intro n
    have := ((h.drewN n).take m).string (cap := cap)
    rw [a1, tab_length] at this; exact this
  · intro n
    have := ((h.drewN n).drop m (by rw [tab_length]; omega)).string (cap := cap - m)
    rw [a2, tab_length, Nat.zero_add] at this; exact this

theorem half_cv1 {w : World} {f : Nat → Bool} {g cap m p : Nat} (h : Held w g 0 (tab f 0 (m + p))) :
    (convert 63 9 (.slice (some ⟨g, 0, none⟩) m cap)).run Try.prog w.drew = .ok (.string (bs (tab f 0 m))) w.drew ∧
    (convert 63 9 (.slice (some ⟨g, m, none⟩) p (cap - m))).run Try.prog w.drew = .ok (.string (bs (tab f m p))) w.drew :=
  ⟨(half_cv h).1 1, (half_cv h).2 1⟩

set_option maxRecDepth 50000 in
set_option maxHeartbeats 1000000 in
theorem rEither_any (u v x y : List Bool) (w : World) (hv0 : v ≠ []) (hy0 : y ≠ []) (hu : u.length ≤ 4096) (hv : v.length ≤ 4096) (hx : x.length ≤ 4096) (hy : y.length ≤ 4096) :
    Calls Try.prog 24 #[.agg #[.string (bs u), .string (bs v)], .agg #[.string (bs x), .string (bs y)]] w fun e w' => e = .returned (.agg #[.string (bs (tab (fun n => bitAt u v n || bitAt x y n) 0 (max u.length x.length))), .string (bs (tab (fun n => bitAt u v n || bitAt x y n) (max u.length x.length) (v.length * y.length)))]) ∧ Below w.heap.size w w' := by
  obtain ⟨i0, hi, hz0, hz1, hz2⟩ := info_parts Try.info5
  have hA := R3_a w u v x y
  have hB := R3_b w u v x y
  have hR := R3_r w u v x y
  have s1 : (bs u).size = u.length := bs_size u
  have s2 : (bs v).size = v.length := bs_size v
  have s3 : (bs x).size = x.length := bs_size x
  have s4 : (bs y).size = y.length := bs_size y
  have hv1 : 0 < v.length := List.length_pos_iff.2 hv0
  have hy1 : 0 < y.length := List.length_pos_iff.2 hy0
  have hP0 : 0 < v.length * y.length := Nat.mul_pos hv1 hy1
  have hPb : v.length * y.length ≤ 4096 * 4096 := Nat.mul_le_mul hv hy
  have hMb : max u.length x.length ≤ 4096 := by omega
  have hMi : max (u.length : Int) (x.length : Int) = ((max u.length x.length : Nat) : Int) := by omega
  have hPi : (v.length : Int) * (y.length : Int) = ((v.length * y.length : Nat) : Int) := by simp
  obtain ⟨M, hM⟩ : ∃ M, max u.length x.length = M := ⟨_, rfl⟩
  obtain ⟨P, hP⟩ : ∃ P, v.length * y.length = P := ⟨_, rfl⟩
  rw [hM] at hMb hMi ⊢
  rw [hP] at hP0 hPb hPi ⊢
  clear hM hP
  go_enter Try.func24, Try.ntmps24
  go_wp2_with (go_at_call 42; refine (rgreater_any _ _ _).mono ?_; rintro e w1 ⟨rfl, hw1⟩; subst w1)
  have x00 : max (0 : Int) 0 = 0 := rfl
  have x01 : max (0 : Int) 1 = 1 := rfl
  have x10 : max (1 : Int) 0 = 1 := rfl
  have x11 : max (1 : Int) 1 = 1 := rfl
  clear hMi hPi
  go_loopw [7, 8] (fun r i wr => ∃ k : Nat, k ≤ M + P ∧ i = .int .i64 k ∧ RGath w u v x y (fun n => bitAt u v n || bitAt x y n) k r wr) (fun _ i _ => M + P - (intOf i).toNat)
  case atStart => exact ⟨0, by omega, rfl, World.ownsRow_nil _ _ _ _, Below.refl _ _⟩
  case round =>
    obtain ⟨k, hk, rfl, hG⟩ := hrel
    have hsz := hG.size
    obtain ⟨a0, a1, _, _⟩ := hA.below hG.2 (by omega)
    obtain ⟨b0, b1, _, _⟩ := hB.below hG.2 (by omega)
    have hown := hG.1
    by_cases hlt : k < M + P
    · cases h1 : bitAt u v k <;> cases h2 : bitAt x y k
      · go_wp2_with fail
        refine (rBit_any u v k wr hv0 (by omega) (by omega) (by omega)).mono ?_
        rintro e w1 ⟨rfl, hb1⟩
        rw [h1]
        have hz1' := hb1.size
        obtain ⟨b0', b1', _, _⟩ := (hB.below hG.2 (by omega)).below hb1 (by omega)
        go_wp2_with fail
        refine (rBit_any x y k w1 hy0 (by omega) (by omega) (by omega)).mono ?_
        rintro e w2 ⟨rfl, hb2⟩
        rw [h2]
        have hz2' := hb2.size
        have hown2 := ownsRow_below hown (below_two hb1 hb2)
        go_wp2_with (first
          | (go_at_call 42; refine (rgreater_any _ _ _).mono ?_; rintro e w3 ⟨rfl, hw3⟩; subst w3)
          | (at_builtin; refine wpList_append_own _ rfl _ _ 63 rfl (w.heap.size + 1 + 1 + 1) 5 i0 (.int .u8 0) 1 1 Try.under63 hi hz0 hz1 hz2 rfl (by decide) _ _ _ rfl (hown2.alloc _) ⟨w2.heap.size, 0, none⟩ 1 1 [.int .u8 ((bb false).toNat : Int)] rfl rfl (cell_one_new _ _ _) (by intro x hx; simp at hx; subst hx; rfl) (by unfold maxLen; omega) (by omega) (by simp; omega) ?_; intro v' w' hown' hgrow _))
        have R := rgath_app hG (below_two hb1 hb2) (by simp only [h1, h2]; rfl) hown' hgrow
        clear hown' hgrow hown hG hown2 hb1 hb2 a0 a1 b0 b1 b0' b1' h1 h2
        go_wp2
        go_roundw
        case rel => exact ⟨k + 1, by omega, by go_num, R⟩
        case measure => simp [intOf]; omega
      · go_wp2_with fail
        refine (rBit_any u v k wr hv0 (by omega) (by omega) (by omega)).mono ?_
        rintro e w1 ⟨rfl, hb1⟩
        rw [h1]
        have hz1' := hb1.size
        obtain ⟨b0', b1', _, _⟩ := (hB.below hG.2 (by omega)).below hb1 (by omega)
        go_wp2_with fail
        refine (rBit_any x y k w1 hy0 (by omega) (by omega) (by omega)).mono ?_
        rintro e w2 ⟨rfl, hb2⟩
        rw [h2]
        have hz2' := hb2.size
        have hown2 := ownsRow_below hown (below_two hb1 hb2)
        go_wp2_with (first
          | (go_at_call 42; refine (rgreater_any _ _ _).mono ?_; rintro e w3 ⟨rfl, hw3⟩; subst w3)
          | (at_builtin; refine wpList_append_own _ rfl _ _ 63 rfl (w.heap.size + 1 + 1 + 1) 5 i0 (.int .u8 0) 1 1 Try.under63 hi hz0 hz1 hz2 rfl (by decide) _ _ _ rfl (hown2.alloc _) ⟨w2.heap.size, 0, none⟩ 1 1 [.int .u8 ((bb true).toNat : Int)] rfl rfl (cell_one_new _ _ _) (by intro x hx; simp at hx; subst hx; rfl) (by unfold maxLen; omega) (by omega) (by simp; omega) ?_; intro v' w' hown' hgrow _))
        have R := rgath_app hG (below_two hb1 hb2) (by simp only [h1, h2]; rfl) hown' hgrow
        clear hown' hgrow hown hG hown2 hb1 hb2 a0 a1 b0 b1 b0' b1' h1 h2
        go_wp2
        go_roundw
        case rel => exact ⟨k + 1, by omega, by go_num, R⟩
        case measure => simp [intOf]; omega
      · go_wp2_with fail
        refine (rBit_any u v k wr hv0 (by omega) (by omega) (by omega)).mono ?_
        rintro e w1 ⟨rfl, hb1⟩
        rw [h1]
        have hz1' := hb1.size
        obtain ⟨b0', b1', _, _⟩ := (hB.below hG.2 (by omega)).below hb1 (by omega)
        go_wp2_with fail
        refine (rBit_any x y k w1 hy0 (by omega) (by omega) (by omega)).mono ?_
        rintro e w2 ⟨rfl, hb2⟩
        rw [h2]
        have hz2' := hb2.size
        have hown2 := ownsRow_below hown (below_two hb1 hb2)
        go_wp2_with (first
          | (go_at_call 42; refine (rgreater_any _ _ _).mono ?_; rintro e w3 ⟨rfl, hw3⟩; subst w3)
          | (at_builtin; refine wpList_append_own _ rfl _ _ 63 rfl (w.heap.size + 1 + 1 + 1) 5 i0 (.int .u8 0) 1 1 Try.under63 hi hz0 hz1 hz2 rfl (by decide) _ _ _ rfl (hown2.alloc _) ⟨w2.heap.size, 0, none⟩ 1 1 [.int .u8 ((bb true).toNat : Int)] rfl rfl (cell_one_new _ _ _) (by intro x hx; simp at hx; subst hx; rfl) (by unfold maxLen; omega) (by omega) (by simp; omega) ?_; intro v' w' hown' hgrow _))
        have R := rgath_app hG (below_two hb1 hb2) (by simp only [h1, h2]; rfl) hown' hgrow
        clear hown' hgrow hown hG hown2 hb1 hb2 a0 a1 b0 b1 b0' b1' h1 h2
        go_wp2
        go_roundw
        case rel => exact ⟨k + 1, by omega, by go_num, R⟩
        case measure => simp [intOf]; omega
      · go_wp2_with fail
        refine (rBit_any u v k wr hv0 (by omega) (by omega) (by omega)).mono ?_
        rintro e w1 ⟨rfl, hb1⟩
        rw [h1]
        have hz1' := hb1.size
        obtain ⟨b0', b1', _, _⟩ := (hB.below hG.2 (by omega)).below hb1 (by omega)
        go_wp2_with fail
        refine (rBit_any x y k w1 hy0 (by omega) (by omega) (by omega)).mono ?_
        rintro e w2 ⟨rfl, hb2⟩
        rw [h2]
        have hz2' := hb2.size
        have hown2 := ownsRow_below hown (below_two hb1 hb2)
        go_wp2_with (first
          | (go_at_call 42; refine (rgreater_any _ _ _).mono ?_; rintro e w3 ⟨rfl, hw3⟩; subst w3)
          | (at_builtin; refine wpList_append_own _ rfl _ _ 63 rfl (w.heap.size + 1 + 1 + 1) 5 i0 (.int .u8 0) 1 1 Try.under63 hi hz0 hz1 hz2 rfl (by decide) _ _ _ rfl (hown2.alloc _) ⟨w2.heap.size, 0, none⟩ 1 1 [.int .u8 ((bb true).toNat : Int)] rfl rfl (cell_one_new _ _ _) (by intro x hx; simp at hx; subst hx; rfl) (by unfold maxLen; omega) (by omega) (by simp; omega) ?_; intro v' w' hown' hgrow _))
        have R := rgath_app hG (below_two hb1 hb2) (by simp only [h1, h2]; rfl) hown' hgrow
        clear hown' hgrow hown hG hown2 hb1 hb2 a0 a1 b0 b1 b0' b1' h1 h2
        go_wp2
        go_roundw
        case rel => exact ⟨k + 1, by omega, by go_num, R⟩
        case measure => simp [intOf]; omega
    · have hke : k = M + P := by omega
      obtain ⟨g, cap, hr, hg1, hg2, hcap, _, hheld⟩ := own_held hown (by omega)
      rw [hr]
      clear hown
      subst hke
      obtain ⟨kv1, kv2⟩ := half_cv1 (cap := cap) hheld
      have hMc : M ≤ cap := by omega
      obtain ⟨d0, d1, f0, f1⟩ := hR.below hG.2 (by omega)
      go_wp2
      go_region
      go_wp2
      have hst := Boxed.store ⟨d0, d1, f0, f1⟩ (bs (tab (fun n => bitAt u v n || bitAt x y n) 0 M)) (bs (tab (fun n => bitAt u v n || bitAt x y n) M P))
      have q0 := hst.c0
      have q1 := hst.c1
      exact bodyPost_ret (v := .agg #[.string (bs (tab (fun n => bitAt u v n || bitAt x y n) 0 M)), .string (bs (tab (fun n => bitAt u v n || bitAt x y n) M P))]) (by simp [results, Try.results24, go_sem, q0, q1]) rfl ⟨rfl,
        ((((R3_below w u v x y).trans (hG.2.mono (by omega))).setCell (by show w.heap.size ≤ w.heap.size + 1 + 1; omega) _).setCell (by show w.heap.size ≤ w.heap.size + 1 + 1; omega) _).drew⟩
end Go.Proofs.Ytfbkjopidjojeaa
