/-
  Walks over package streamsref, part d: Fits, Not.
-/
import Derived.Test.YtfbkjopidjojeaaRc
namespace Go.Proofs.Ytfbkjopidjojeaa
open Go.RowKit

/-- Does the normal form fit? -/
def FitsIs (f : Nat → Bool) (e : Ending) : Prop := ∃ x y : List Bool, e = .returned (.bool (decide (x.length ≤ 64) && decide (y.length ≤ 64))) ∧ NF f x y

set_option maxRecDepth 50000 in
set_option maxHeartbeats 400000 in
theorem rFits_any (u v : List Bool) (w : World) (hv0 : v ≠ []) (hu : u.length ≤ 1048576) (hv : v.length ≤ 1048576) :
    Calls Try.prog 39 #[.agg #[.string (bs u), .string (bs v)]] w fun e w' => FitsIs (bitAt u v) e ∧ Below w.heap.size w w' := by
  go_enter Try.func39, Try.ntmps39
  go_wp2_with fail
  refine (rNormal_any u v (R1 w u v) hv0 hu hv).mono ?_
  rintro e w1 ⟨⟨x, y, rfl, hn, hx, hy⟩, hb1⟩
  have s1 : (bs x).size = x.length := bs_size x
  have s2 : (bs y).size = y.length := bs_size y
  rw [R1_size] at hb1
  have hz := hb1.size
  rw [R1_size] at hz
  by_cases h1 : x.length ≤ 64
  · go_wp2
    go_ret
    exact ⟨⟨x, y, ret_bool (by rw [decide_eq_true h1]; simp; omega), hn⟩, ((R1_below w u v).trans (hb1.mono (by omega))).alloc (by omega) _⟩
  · go_wp2
    go_ret
    exact ⟨⟨x, y, ret_bool (by rw [decide_eq_false h1]; simp), hn⟩, ((R1_below w u v).trans (hb1.mono (by omega))).alloc (by omega) _⟩

theorem bs_byte {l : List Bool} {k : Nat} {x : Bool} (h : k < l.length) (hx : l[k] = x) : ∀ h' : k < (bs l).size, ((bs l)[k]'h').toNat = (bb x).toNat := by
  intro h'
  rw [bs_get, hx]

set_option maxRecDepth 50000 in
set_option maxHeartbeats 1000000 in
theorem rNot_any (u v : List Bool) (w : World) (hu : u.length ≤ 1048576) (hv : v.length ≤ 1048576) :
    Calls Try.prog 23 #[.agg #[.string (bs u), .string (bs v)]] w fun e w' => e = .returned (.agg #[.string (bs (tab (fun n => !bitAt u v n) 0 u.length)), .string (bs (tab (fun n => !bitAt u v n) u.length v.length))]) ∧ Below w.heap.size w w' := by
  obtain ⟨i0, hi, hz0, hz1, hz2⟩ := info_parts Try.info5
  have hA := R2_a w u v
  have hR := R2_r w u v
  have s1 : (bs u).size = u.length := bs_size u
  have s2 : (bs v).size = v.length := bs_size v
  go_enter Try.func23, Try.ntmps23
  go_wp2
  go_loopw [3, 5] (fun r i wr => ∃ k : Nat, k ≤ u.length ∧ i = .int .i64 k ∧ wr.ownsRow (w.heap.size + 1 + 1) 5 1 r k (cellsOf (tab (fun n => !bitAt u v n) 0 k)) ∧ Below (w.heap.size + 1 + 1) (R2 w u v) wr) (fun _ i _ => u.length - (intOf i).toNat)
  case atStart => exact ⟨0, by omega, rfl, World.ownsRow_nil _ _ _ _, Below.refl _ _⟩
  case round =>
    obtain ⟨k, hk, rfl, hown, hG⟩ := hrel
    have hsz := hG.size
    rw [R2_size] at hsz
    obtain ⟨a0, a1, _, _⟩ := hA.below hG (by omega)
    by_cases hlt : k < u.length
    · have hbl := bitAt_lead (v := v) hlt
      cases hbit : u[k]
      · have hby := bs_byte hlt hbit
        go_wp2_with (at_builtin; refine wpList_append_own _ rfl _ _ 63 rfl (w.heap.size + 1 + 1) 5 i0 (.int .u8 0) 1 1 Try.under63 hi hz0 hz1 hz2 rfl (by decide) _ _ _ rfl (hown.alloc _) ⟨wr.heap.size, 0, none⟩ 1 1 [.int .u8 ((bb true).toNat : Int)] rfl rfl (cell_one_new _ _ _) (by intro x hx; simp at hx; subst hx; rfl) (by unfold maxLen; omega) (by omega) (by simp; omega) ?_; intro v' w' hown' hgrow _)
        have R := rel_grow hsz hown hG hown' hgrow
        have e : tab (fun n => !bitAt u v n) 0 k ++ [true] = tab (fun n => !bitAt u v n) 0 (k + 1) := by rw [tab_snoc, Nat.zero_add, hbl, hbit]; rfl
        rw [e] at R
        clear hown' hgrow hown hG a0 a1 hbit hby hbl e
        go_roundw
        case rel => exact ⟨k + 1, by omega, by go_num, R.1, R.2⟩
        case measure => simp [intOf]; omega
      · have hby := bs_byte hlt hbit
        go_wp2_with (at_builtin; refine wpList_append_own _ rfl _ _ 63 rfl (w.heap.size + 1 + 1) 5 i0 (.int .u8 0) 1 1 Try.under63 hi hz0 hz1 hz2 rfl (by decide) _ _ _ rfl (hown.alloc _) ⟨wr.heap.size, 0, none⟩ 1 1 [.int .u8 ((bb false).toNat : Int)] rfl rfl (cell_one_new _ _ _) (by intro x hx; simp at hx; subst hx; rfl) (by unfold maxLen; omega) (by omega) (by simp; omega) ?_; intro v' w' hown' hgrow _)
        have R := rel_grow hsz hown hG hown' hgrow
        have e : tab (fun n => !bitAt u v n) 0 k ++ [false] = tab (fun n => !bitAt u v n) 0 (k + 1) := by rw [tab_snoc, Nat.zero_add, hbl, hbit]; rfl
        rw [e] at R
        clear hown' hgrow hown hG a0 a1 hbit hby hbl e
        go_roundw
        case rel => exact ⟨k + 1, by omega, by go_num, R.1, R.2⟩
        case measure => simp [intOf]; omega
    · have hke : k = u.length := by omega
      subst hke
      go_wp2
      clear a0 a1
      rename World => W1
      go_loopw [4, 6] (fun r i wx => ∃ k : Nat, k ≤ v.length ∧ i = .int .i64 k ∧ wx.ownsRow W1.heap.size 5 1 r k (cellsOf (tab (fun n => !bitAt u v n) u.length k)) ∧ Below W1.heap.size W1 wx) (fun _ i _ => v.length - (intOf i).toNat)
      case atStart => exact ⟨0, by omega, rfl, World.ownsRow_nil _ _ _ _, Below.refl _ _⟩
      case round =>
        obtain ⟨k, hk2, rfl, hown2, hG2⟩ := hrel
        have hsz2 := hG2.size
        obtain ⟨a0, a1, _, _⟩ := (hA.below hG (by omega)).below hG2 (by omega)
        by_cases hlt2 : k < v.length
        · have hbl := bitAt_round (u := u) hlt2
          cases hbit : v[k]
          · have hby := bs_byte hlt2 hbit
            go_wp2_with (at_builtin; refine wpList_append_own _ rfl _ _ 63 rfl (W1.heap.size) 5 i0 (.int .u8 0) 1 1 Try.under63 hi hz0 hz1 hz2 rfl (by decide) _ _ _ rfl (hown2.alloc _) ⟨wr.heap.size, 0, none⟩ 1 1 [.int .u8 ((bb true).toNat : Int)] rfl rfl (cell_one_new _ _ _) (by intro x hx; simp at hx; subst hx; rfl) (by unfold maxLen; omega) (by omega) (by simp; omega) ?_; intro v' w' hown' hgrow _)
            have R := rel_grow hsz2 hown2 hG2 hown' hgrow
            have e : tab (fun n => !bitAt u v n) u.length k ++ [true] = tab (fun n => !bitAt u v n) u.length (k + 1) := by rw [tab_snoc, hbl, hbit]; rfl
            rw [e] at R
            clear hown' hgrow hown2 hG2 a0 a1 hbit hby hbl e
            go_roundw
            case rel => exact ⟨k + 1, by omega, by go_num, R.1, R.2⟩
            case measure => simp [intOf]; omega
          · have hby := bs_byte hlt2 hbit
            go_wp2_with (at_builtin; refine wpList_append_own _ rfl _ _ 63 rfl (W1.heap.size) 5 i0 (.int .u8 0) 1 1 Try.under63 hi hz0 hz1 hz2 rfl (by decide) _ _ _ rfl (hown2.alloc _) ⟨wr.heap.size, 0, none⟩ 1 1 [.int .u8 ((bb false).toNat : Int)] rfl rfl (cell_one_new _ _ _) (by intro x hx; simp at hx; subst hx; rfl) (by unfold maxLen; omega) (by omega) (by simp; omega) ?_; intro v' w' hown' hgrow _)
            have R := rel_grow hsz2 hown2 hG2 hown' hgrow
            have e : tab (fun n => !bitAt u v n) u.length k ++ [false] = tab (fun n => !bitAt u v n) u.length (k + 1) := by rw [tab_snoc, hbl, hbit]; rfl
            rw [e] at R
            clear hown' hgrow hown2 hG2 a0 a1 hbit hby hbl e
            go_roundw
            case rel => exact ⟨k + 1, by omega, by go_num, R.1, R.2⟩
            case measure => simp [intOf]; omega
        · have hke : k = v.length := by omega
          subst hke
          have kv1 := own_string (ownsRow_below hown hG2)
          have kv2 := own_string hown2
          have hG3 := hG.trans (hG2.mono (by omega))
          have hbx := hR.below hG3 (by omega)
          obtain ⟨d0, d1, f0, f1⟩ := hbx
          clear hown2
          go_wp2
          have hst := Boxed.store ⟨d0, d1, f0, f1⟩ (bs (tab (fun n => !bitAt u v n) 0 u.length)) (bs (tab (fun n => !bitAt u v n) u.length v.length))
          have q0 := hst.c0
          have q1 := hst.c1
          exact bodyPost_ret (v := .agg #[.string (bs (tab (fun n => !bitAt u v n) 0 u.length)), .string (bs (tab (fun n => !bitAt u v n) u.length v.length))]) (by simp [results, Try.results23, go_sem, q0, q1]) rfl ⟨rfl,
            ((((R2_below w u v).trans (hG3.mono (by omega))).setCell (Nat.le_succ _) _).setCell (Nat.le_succ _) _)⟩
end Go.Proofs.Ytfbkjopidjojeaa
