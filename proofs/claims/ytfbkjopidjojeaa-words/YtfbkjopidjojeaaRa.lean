/-
  Walks over package streamsref, part a: Bit, Ones, repeats, text, greater, bits, Text.
-/
import Derived.Test.YtfbkjopidjojeaaWn
namespace Go.Proofs.Ytfbkjopidjojeaa
open Go.RowKit

set_option maxRecDepth 50000 in
set_option maxHeartbeats 400000 in
theorem rBit_lead (u v : ByteArray) (n : Nat) (w : World) (hpos : 0 < v.size) (_hu : u.size ≤ 1152921504606846976) (hn : n < u.size) :
    Calls Try.prog 43 #[.agg #[.string u, .string v], .int .i64 n] w fun e w' => e = .returned (.int .i64 (((u[n].toNat : Int) - 48) % 256)) ∧ Below w.heap.size w w' := by
  go_enter Try.func43, Try.ntmps43
  go_wp2
  go_ret
  exact ⟨rfl, (Below.refl _ _).alloc (Nat.le_refl _) _⟩

set_option maxRecDepth 50000 in
set_option maxHeartbeats 400000 in
theorem rBit_round (u v : ByteArray) (n : Nat) (w : World) (hu : u.size ≤ 1152921504606846976) (hv : v.size ≤ 1152921504606846976) (hpos : 0 < v.size) (hn : u.size ≤ n) (hn2 : n ≤ 1152921504606846976) (hlt : (n - u.size) % v.size < v.size) :
    Calls Try.prog 43 #[.agg #[.string u, .string v], .int .i64 n] w fun e w' => e = .returned (.int .i64 (((v[(n - u.size) % v.size].toNat : Int) - 48) % 256)) ∧ Below w.heap.size w w' := by
  have hp : (1 : Int) ≤ (v.size : Int) := by omega
  have hm : (u.size : Int) ≤ (n : Int) := by omega
  have hm2 : (0 : Int) ≤ (n : Int) - (u.size : Int) := by omega
  have hi : (0 : Int) ≤ ((n : Int) - (u.size : Int)) % (v.size : Int) := Int.emod_nonneg _ (by omega)
  have hi2 : ((n : Int) - (u.size : Int)) % (v.size : Int) < (v.size : Int) := Int.emod_lt_of_pos _ (by omega)
  go_enter Try.func43, Try.ntmps43
  go_wp2
  go_quiet (fail)
  go_wp2
  go_ret
  exact ⟨rfl, below_drewN ((Below.refl _ _).alloc (Nat.le_refl _) _) _⟩

theorem bb_num (x : Bool) : (((bb x).toNat : Int) - 48) % 256 = (x.toNat : Int) := by cases x <;> decide

/-- A bit of a word, as a number. -/
theorem rBit_any (u v : List Bool) (n : Nat) (w : World) (hv0 : v ≠ []) (hu : u.length ≤ 1152921504606846976) (hv : v.length ≤ 1152921504606846976) (hn : n ≤ 1152921504606846976) :
    Calls Try.prog 43 #[.agg #[.string (bs u), .string (bs v)], .int .i64 n] w fun e w' => e = .returned (.int .i64 ((bitAt u v n).toNat : Nat)) ∧ Below w.heap.size w w' := by
  have hL : 0 < v.length := List.length_pos_iff.2 hv0
  by_cases h : n < u.length
  · refine (rBit_lead (bs u) (bs v) n w (by rw [bs_size]; exact hL) (by rw [bs_size]; exact hu) (by rw [bs_size]; exact h)).mono ?_
    rintro e w' ⟨rfl, hb⟩
    refine ⟨ret_int ?_, hb⟩
    rw [bs_get, bb_num, bitAt_lead h]
  · have hlt : (n - u.length) % v.length < v.length := Nat.mod_lt _ hL
    refine (rBit_round (bs u) (bs v) n w (by rw [bs_size]; exact hu) (by rw [bs_size]; exact hv) (by rw [bs_size]; exact hL) (by rw [bs_size]; omega) hn (by rw [bs_size, bs_size]; exact hlt)).mono ?_
    rintro e w' ⟨rfl, hb⟩
    refine ⟨ret_int ?_, hb⟩
    rw [bs_get, bb_num]
    unfold bitAt
    rw [if_neg h, getD_lt hlt]
    simp only [bs_size]
theorem rBit_int (u v : List Bool) (n : Int) (k : Nat) (w : World) (hk : n = k) (hv0 : v ≠ []) (hu : u.length ≤ 1152921504606846976) (hv : v.length ≤ 1152921504606846976) (hn : k ≤ 1152921504606846976) :
    Calls Try.prog 43 #[.agg #[.string (bs u), .string (bs v)], .int .i64 n] w fun e w' => e = .returned (.int .i64 ((bitAt u v k).toNat : Nat)) ∧ Below w.heap.size w w' := by
  subst hk; exact rBit_any u v k w hv0 hu hv hn

/-- The world behind one box. -/
def R1 (w : World) (u v : List Bool) : World := w.alloc (Obj.cells #[Value.string (bs u), Value.string (bs v)] 39)
theorem R1_size (w : World) (u v : List Bool) : (R1 w u v).heap.size = w.heap.size + 1 := by simp [R1]
theorem R1_below (w : World) (u v : List Bool) : Below w.heap.size w (R1 w u v) := (Below.refl w.heap.size w).alloc (Nat.le_refl _) _
theorem R1_a (w : World) (u v : List Bool) : Boxed (R1 w u v) w.heap.size (bs u) (bs v) := Boxed.new w _ (bs u) (bs v) _ rfl

set_option maxRecDepth 50000 in
set_option maxHeartbeats 400000 in
theorem rOnes_any (u v : List Bool) (n : Nat) (w : World) (hv0 : v ≠ []) (hu : u.length ≤ 1048576) (hv : v.length ≤ 1048576) (hn : n ≤ 1152921504606846976) :
    Calls Try.prog 61 #[.agg #[.string (bs u), .string (bs v)], .int .i64 n] w fun e w' => e = .returned (.int .i64 (ones (bitAt u v) n : Nat)) ∧ Below w.heap.size w w' := by
  have hA := R1_a w u v
  go_enter Try.func61, Try.ntmps61
  go_wp2
  go_loopw [5, 6] (fun s i wr => ∃ k N : Nat, k ≤ n ∧ i = .int .i64 k ∧ s = .int .i64 N ∧ Hid (N = ones (bitAt u v) k) ∧ N ≤ k ∧ Below (w.heap.size + 1) (R1 w u v) wr) (fun _ i _ => n - (intOf i).toNat)
  case atStart => exact ⟨0, 0, by omega, rfl, rfl, rfl, by omega, Below.refl _ _⟩
  case round =>
    obtain ⟨k, N, hk, rfl, rfl, HN, hN, hG⟩ := hrel
    have hsz := hG.size
    rw [R1_size] at hsz
    obtain ⟨a0, a1, _, _⟩ := hA.below hG (by omega)
    by_cases hlt : k < n
    · have hb1 : ((bitAt u v k).toNat : Int) ≤ 1 := by cases bitAt u v k <;> decide
      go_wp2_with (go_at_call 43; refine (rBit_any u v k wr hv0 (by omega) (by omega) (by omega)).mono ?_; rintro e w1 ⟨rfl, hb2⟩)
      go_roundw
      case rel => exact ⟨k + 1, N + (bitAt u v k).toNat, by omega, by go_num, by go_num, by show _ = _; rw [ones, ← HN.out], by omega, hG.trans (hb2.mono (by omega))⟩
      case measure => simp [intOf]; omega
    · have hke : k = n := by omega
      subst hke
      go_wp2
      go_ret
      exact ⟨ret_int (by rw [← HN.out]), (R1_below w u v).trans (hG.mono (by omega))⟩

/-- What repeats gives. -/
def RRep (f : Nat → Bool) (a b p : Nat) (e : Ending) : Prop := ∃ r : Bool, e = .returned (.bool r) ∧ Hid (r = true ↔ ∀ i, a ≤ i → i < b → f i = f (i + p))

theorem toNat_ne {x y : Bool} (h : (((x.toNat : Nat) : Int) != ((y.toNat : Nat) : Int)) = true) : x ≠ y := by intro e; subst e; simp at h
theorem toNat_eq {x y : Bool} (h : (((x.toNat : Nat) : Int) != ((y.toNat : Nat) : Int)) = false) : x = y := by cases x <;> cases y <;> simp_all

set_option maxRecDepth 50000 in
set_option maxHeartbeats 400000 in
theorem rrepeats_any (u v : List Bool) (a b p : Nat) (w : World) (hv0 : v ≠ []) (hu : u.length ≤ 1048576) (hv : v.length ≤ 1048576) (ha : a ≤ b) (hb : b ≤ 4611686018427387) (hp : p ≤ 4611686018427387) :
    Calls Try.prog 59 #[.agg #[.string (bs u), .string (bs v)], .int .i64 a, .int .i64 b, .int .i64 p] w fun e w' => RRep (bitAt u v) a b p e ∧ Below w.heap.size w w' := by
  have hA := R1_a w u v
  go_enter Try.func59, Try.ntmps59
  go_wp2
  go_loopw [9] (fun i wr => ∃ k : Nat, a ≤ k ∧ k ≤ b ∧ i = .int .i64 k ∧ Hid (∀ i, a ≤ i → i < k → bitAt u v i = bitAt u v (i + p)) ∧ Below (w.heap.size + 1) (R1 w u v) wr) (fun i _ => b - (intOf i).toNat)
  case atStart => exact ⟨a, by omega, by omega, rfl, fun i h1 h2 => by omega, Below.refl _ _⟩
  case round =>
    obtain ⟨k, hk0, hk, rfl, HF, hG⟩ := hrel
    have hsz := hG.size
    rw [R1_size] at hsz
    obtain ⟨a0, a1, _, _⟩ := hA.below hG (by omega)
    by_cases hlt : k < b
    · obtain ⟨x, hx⟩ : ∃ x, x = bitAt u v k := ⟨_, rfl⟩
      obtain ⟨y, hy⟩ : ∃ y, y = bitAt u v (k + p) := ⟨_, rfl⟩
      go_wp2_with fail
      refine (rBit_any u v k wr hv0 (by omega) (by omega) (by omega)).mono ?_
      rintro e w1 ⟨rfl, hb1⟩
      obtain ⟨c0, c1, _, _⟩ := (hA.below hG (by omega)).below hb1 (by omega)
      have hz1 := hb1.size
      rw [← hx]
      have HX : Hid (x = bitAt u v k) := hx
      clear hx
      go_wp2_with fail
      refine (rBit_int u v _ (k + p) w1 (by omega) hv0 (by omega) (by omega) (by omega)).mono ?_
      rintro e w2 ⟨rfl, hb2⟩
      rw [← hy]
      have HY : Hid (y = bitAt u v (k + p)) := hy
      clear hy
      have hG2 := hG.trans ((below_two hb1 hb2).mono (by omega))
      clear hb1 hb2 c0 c1 a0 a1
      go_wp2
      · have hne : (((x.toNat : Nat) : Int) != ((y.toNat : Nat) : Int)) = true := by assumption
        go_ret
        refine ⟨⟨false, rfl, ⟨fun h => by simp at h, fun h => ?_⟩⟩, (R1_below w u v).trans (hG2.mono (by omega))⟩
        have := h k hk0 hlt
        rw [← HX.out, ← HY.out] at this
        exact absurd this (toNat_ne hne)
      · have heq : (((x.toNat : Nat) : Int) != ((y.toNat : Nat) : Int)) = false := by assumption
        go_roundw
        case rel =>
          refine ⟨k + 1, by omega, by omega, by go_num, ?_, hG2⟩
          intro i h1 h2
          rcases Nat.lt_or_ge i k with g | g
          · exact HF.out i h1 g
          · have : i = k := by omega
            subst this
            rw [← HX.out, ← HY.out]; exact toNat_eq heq
        case measure => simp [intOf]; omega
    · have hke : k = b := by omega
      subst hke
      go_wp2
      go_ret
      exact ⟨⟨true, rfl, ⟨fun _ => HF.out, fun _ => rfl⟩⟩, (R1_below w u v).trans (hG.mono (by omega))⟩
end Go.Proofs.Ytfbkjopidjojeaa
