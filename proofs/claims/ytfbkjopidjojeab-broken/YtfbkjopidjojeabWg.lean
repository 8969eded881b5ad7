/-
  Walks, part g: Either of package word.
-/
import Derived.Test.YtfbkjopidjojeabWf
import Derived.Test.YtfbkjopidjojeabMc
import Derived.Deep.RegionWith
namespace Go.Proofs.Ytfbkjopidjojeab
open Go.RowKit

theorem own_start2 (W : World) (B b : Nat) (h : W.heap.size = b) (hB : B ≤ b) : (W.alloc (.cells #[] 5)).ownsRow B 5 1 (.slice (some ⟨b, 0, none⟩) 0 0) 0 [] := by
  subst h
  exact World.ownsRow_made W #[] 0 hB (by unfold maxLen; omega) rfl

theorem below_two {a b c : World} (h : Below a.heap.size a b) (k : Below b.heap.size b c) : Below a.heap.size a c := h.trans (k.mono h.size)

/-- The world behind two boxes and a place for the result. -/
def S3 (w : World) (u v x y : List Bool) : World := ((w.alloc (Obj.cells #[Value.string (bs u), Value.string (bs v)] 74)).alloc (Obj.cells #[Value.string (bs x), Value.string (bs y)] 74)).alloc (Obj.cells #[Value.string ⟨#[]⟩, Value.string ⟨#[]⟩] 74)
theorem S3_size (w : World) (u v x y : List Bool) : (S3 w u v x y).heap.size = w.heap.size + 1 + 1 + 1 := by simp [S3]
theorem S3_below (w : World) (u v x y : List Bool) : Below w.heap.size w (S3 w u v x y) := (((Below.refl w.heap.size w).alloc (Nat.le_refl _) _).alloc (by simp) _).alloc (by simp; omega) _
theorem S3_a (w : World) (u v x y : List Bool) : Boxed (S3 w u v x y) w.heap.size (bs u) (bs v) := ((Boxed.new w _ (bs u) (bs v) _ rfl).alloc _).alloc _
theorem S3_b (w : World) (u v x y : List Bool) : Boxed (S3 w u v x y) (w.heap.size + 1) (bs x) (bs y) := (Boxed.new _ _ (bs x) (bs y) _ (by simp)).alloc _
theorem S3_r (w : World) (u v x y : List Bool) : Boxed (S3 w u v x y) (w.heap.size + 1 + 1) ⟨#[]⟩ ⟨#[]⟩ := Boxed.new _ _ _ _ _ (by simp)

/-- What the loops of Either and On keep. -/
def Gath (w : World) (u v x y : List Bool) (f : Nat → Bool) (k : Nat) (r : Value) (wr : World) : Prop :=
  wr.ownsRow (w.heap.size + 1 + 1 + 1) 5 1 r k (cellsOf (tab f 0 k)) ∧ Below (w.heap.size + 1 + 1 + 1) (S3 w u v x y) wr

theorem Gath.size {w wr : World} {u v x y : List Bool} {f : Nat → Bool} {k : Nat} {r : Value} (h : Gath w u v x y f k r wr) : w.heap.size + 1 + 1 + 1 ≤ wr.heap.size := by
  have := h.2.size; rw [S3_size] at this; exact this

theorem gath_app {w wr w1 w' : World} {u v x y : List Bool} {f : Nat → Bool} {k : Nat} {r v' : Value} {z : Bool} {o : Obj} (h : Gath w u v x y f k r wr) (hb1 : Below wr.heap.size wr w1)
    (hx : z = f k) (hown' : w'.ownsRow (w.heap.size + 1 + 1 + 1) 5 1 v' (k + 1) (cellsOf (tab f 0 k) ++ [.int .u8 ((bb z).toNat : Int)])) (hg : (w1.alloc o).grownBy w' r.ownBlock) :
    Gath w u v x y f (k + 1) v' w' := rel_app h.size h.1 h.2 hb1 hx hown' hg

set_option maxRecDepth 50000 in
set_option maxHeartbeats 1000000 in
theorem Either_any (u v x y : List Bool) (w : World) (hv0 : v ≠ []) (hy0 : y ≠ []) (hu : u.length ≤ 1048576) (hv : v.length ≤ 1048576) (hx : x.length ≤ 1048576) (hy : y.length ≤ 1048576) :
    Calls Try.prog 81 #[.agg #[.string (bs u), .string (bs v)], .agg #[.string (bs x), .string (bs y)]] w fun e w' => WordIs (fun n => bitAt u v n || bitAt x y n) (max u.length x.length) (Nat.lcm v.length y.length) e ∧ Below w.heap.size w w' := by
  obtain ⟨i0, hi, hz0, hz1, hz2⟩ := info_parts Try.info5
  have hE := EP_or (EP_bitAt u v hv0) (EP_bitAt x y hy0)
  have hP0 := hE.1
  have hP : Nat.lcm v.length y.length ≤ 1048576 * 1048576 := Nat.le_trans (lcm_le_mul _ _) (Nat.mul_le_mul hv hy)
  have hM : max u.length x.length ≤ 1048576 := by omega
  have s1 : (bs u).size = u.length := bs_size u
  have s2 : (bs v).size = v.length := bs_size v
  have s3 : (bs x).size = x.length := bs_size x
  have s4 : (bs y).size = y.length := bs_size y
  obtain ⟨L, hL⟩ : ∃ L, max u.length x.length = L := ⟨_, rfl⟩
  obtain ⟨P, hPe⟩ : ∃ P, Nat.lcm v.length y.length = P := ⟨_, rfl⟩
  rw [hL, hPe] at hE
  rw [hPe] at hP0 hP
  rw [hL] at hM
  have hA := S3_a w u v x y
  have hB := S3_b w u v x y
  go_enter Try.func81, Try.ntmps81
  go_wp2_with (first
    | (go_at_call 91; refine (bothLead_any (bs u) (bs v) (bs x) (bs y) (S3 w u v x y) (by omega) (by omega)).mono ?_; rintro e w1 ⟨rfl, hb1⟩; rw [S3_size] at hb1; have hz1' := hb1.size; obtain ⟨a0, a1, _, _⟩ := hA.below hb1 (by omega); obtain ⟨b0, b1, _, _⟩ := hB.below hb1 (by omega))
    | (go_at_call 92; refine (bothRound_any (bs u) (bs v) (bs x) (bs y) w1 (by omega) (by omega)).mono ?_; rintro e w2 ⟨rfl, hb2⟩))
  have hb12 : Below (w.heap.size + 1 + 1 + 1) (S3 w u v x y) w2 := hb1.trans (hb2.mono (by rw [S3_size] at hz1'; omega))
  have hz2' := hb12.size
  rw [S3_size] at hz2'
  clear hb1 hb2 hz1' a0 a1 b0 b1
  go_loopw [7, 8] (fun r i wr => ∃ k : Nat, k ≤ L + P ∧ i = .int .i64 k ∧ Gath w u v x y (fun n => bitAt u v n || bitAt x y n) k r wr) (fun _ i _ => L + P - (intOf i).toNat)
  case atStart => exact ⟨0, by omega, rfl, own_start2 _ _ _ rfl (by omega), hb12.alloc (by omega) _⟩
  case round =>
    obtain ⟨k, hk, rfl, hG⟩ := hrel
    have hsz := hG.size
    obtain ⟨a0, a1, _, _⟩ := hA.below hG.2 (by omega)
    obtain ⟨b0, b1, _, _⟩ := hB.below hG.2 (by omega)
    have hown := hG.1
    by_cases hlt : k < L + P
    · cases hbit : bitAt u v k
      · go_wp2_with (first
          | (go_at_call_of 70 (bs u); refine (bit_any u v k wr hv0 (by omega) (by omega) (by omega)).mono ?_; rintro e w1 ⟨rfl, hb1⟩; have hz1' := hb1.size; obtain ⟨b0', b1', _, _⟩ := (hB.below hG.2 (by omega)).below hb1 (by omega))
          | (go_at_call_of 70 (bs x); refine (bit_any x y k w1 hy0 (by omega) (by omega) (by omega)).mono ?_; rintro e w2 ⟨rfl, hb2⟩; have hz2' := hb2.size; have hown2 := ownsRow_below hown (below_two hb1 hb2))
          | (go_at_call 99; refine (digit_any _ _).mono ?_; rintro e w3 ⟨rfl, hw3⟩; subst w3)
          | (at_builtin; refine wpList_append_own _ rfl _ _ 81 rfl (w.heap.size + 1 + 1 + 1) 5 i0 (.int .u8 0) 1 1 Try.under81 hi hz0 hz1 hz2 rfl (by decide) _ _ _ rfl (hown2.alloc _) ⟨w2.heap.size, 0, none⟩ 1 1 [.int .u8 ((bb (bitAt x y k)).toNat : Int)] rfl rfl (cell_one_new _ _ _) (by intro x hx; simp at hx; subst hx; rfl) (by unfold maxLen; omega) (by omega) (by simp; omega) ?_; intro v' w' hown' hgrow _))
        have R := gath_app hG (below_two hb1 hb2) (by simp only [hbit, Bool.false_or]) hown' hgrow
        clear hown' hgrow hown hG hown2 hb1 hb2 a0 a1 b0 b1 b0' b1'
        go_wp2
        go_roundw
        case rel => exact ⟨k + 1, by omega, by go_num, R⟩
        case measure => simp [intOf]; omega
      · go_wp2_with (first
          | (go_at_call_of 70 (bs u); refine (bit_any u v k wr hv0 (by omega) (by omega) (by omega)).mono ?_; rintro e w1 ⟨rfl, hb1⟩; have hz1' := hb1.size; have hown1 := ownsRow_below hown hb1)
          | (go_at_call 99; refine (digit_any _ _).mono ?_; rintro e w3 ⟨rfl, hw3⟩; subst w3)
          | (at_builtin; refine wpList_append_own _ rfl _ _ 81 rfl (w.heap.size + 1 + 1 + 1) 5 i0 (.int .u8 0) 1 1 Try.under81 hi hz0 hz1 hz2 rfl (by decide) _ _ _ rfl (hown1.alloc _) ⟨w1.heap.size, 0, none⟩ 1 1 [.int .u8 ((bb true).toNat : Int)] rfl rfl (cell_one_new _ _ _) (by intro x hx; simp at hx; subst hx; rfl) (by unfold maxLen; omega) (by omega) (by simp; omega) ?_; intro v' w' hown' hgrow _))
        have R := gath_app hG hb1 (by simp only [hbit, Bool.true_or]) hown' hgrow
        clear hown' hgrow hown hG hown1 hb1 a0 a1 b0 b1
        go_wp2
        go_roundw
        case rel => exact ⟨k + 1, by omega, by go_num, R⟩
        case measure => simp [intOf]; omega
    · have hke : k = L + P := by omega
      obtain ⟨g, cap, hr, hg1, hg2, hcap, _, hheld⟩ := own_held hown (by omega)
      rw [hr]
      clear hown
      subst hke
      have hbx := (S3_r w u v x y).below hG.2 (by omega)
      go_wp2_with (go_at_call 100; refine (normal_tab (fun n => bitAt u v n || bitAt x y n) L P _ g cap wr hE rfl (by omega) hcap hg2 hheld).mono ?_; rintro e w1 ⟨⟨p, q, rfl, hn, hp, hq⟩, hb1⟩; obtain ⟨d0, d1, e0, e1⟩ := hbx.below hb1 (by omega); have hz := hb1.size)
      have hst := (hbx.below hb1 (by omega)).store (bs p) (bs q)
      have q0 := hst.c0
      have q1 := hst.c1
      refine bodyPost_ret (v := .agg #[.string (bs p), .string (bs q)]) (by simp [results, Try.results81, go_sem, q0, q1]) rfl ⟨?_, ?_⟩
      · rw [hL, hPe]; exact ⟨p, q, rfl, hn, hp, hq⟩
      · exact (((((S3_below w u v x y).trans (hG.2.mono (by omega))).trans (hb1.mono (by omega))).setCell (by show w.heap.size ≤ w.heap.size + 1 + 1; omega) _).setCell (by show w.heap.size ≤ w.heap.size + 1 + 1; omega) _)
end Go.Proofs.Ytfbkjopidjojeab
