/-
  The law Broken: pick, lot.
-/
import Derived.Test.YtfbkjopidjojeabDr
namespace Go.Proofs.Ytfbkjopidjojeab
open Go.RowKit

set_option maxRecDepth 50000 in
set_option maxHeartbeats 400000 in
theorem pick_any (c : Int) (n : Nat) (w : World) (hc : (Lit.int .i64 c).wf = true) (hn0 : 0 < n) (hn : n ≤ 1099511627776) :
    Calls Try.prog 11 #[.int .i64 c, .int .i64 n] w fun e w' => (∃ r : Nat, e = .returned (.int .i64 r) ∧ r < n) ∧ w' = w := by
  have hb : -9223372036854775808 ≤ c ∧ c ≤ 9223372036854775807 := by
    simp only [Lit.wf, Bool.and_eq_true, decide_eq_true_eq] at hc
    have e1 : IntKind.i64.min = -9223372036854775808 := by decide
    have e2 : IntKind.i64.max = 9223372036854775807 := by decide
    rw [e1, e2] at hc; exact hc
  obtain ⟨hb1, hb2⟩ := hb
  have hn1 : (1 : Int) ≤ (n : Int) := by omega
  clear hc
  by_cases h : c < 0
  · go_enter Try.func11, Try.ntmps11
    go_wp2
    go_ret
    refine ⟨⟨((-(c + 1)).tmod n).toNat, ret_int ?_, ?_⟩, rfl⟩
    · have : 0 ≤ (-(c + 1)).tmod (n : Int) := Int.tmod_nonneg _ (by omega)
      rw [Int.neg_tmod] at this ⊢
      omega
    · have h1 : (-(c + 1)).tmod (n : Int) < n := Int.tmod_lt_of_pos _ (by omega)
      omega
  · have h' : (0 : Int) ≤ c := by omega
    go_enter Try.func11, Try.ntmps11
    go_wp2
    go_ret
    have h1 : 0 ≤ c % (n : Int) := Int.emod_nonneg _ (by omega)
    have h2 : c % (n : Int) < n := Int.emod_lt_of_pos _ (by omega)
    exact ⟨⟨(c % (n : Int)).toNat, ret_int (by omega), by omega⟩, rfl⟩


/-- The table as cells. -/
def lotCells : List Value := lotT.flatMap fun r => [.string (S r.1), .int .i64 r.2.1, .int .i64 r.2.2]
theorem lot_get (l : List (List UInt8 × Flt)) : ∀ (k j : Nat) (x : List UInt8 × Flt), l[k]? = some x → j < 3 → (l.flatMap fun r => [Value.string (S r.1), .int .i64 r.2.1, .int .i64 r.2.2])[k * 3 + j]? = [Value.string (S x.1), .int .i64 x.2.1, .int .i64 x.2.2][j]? := by
  induction l with
  | nil => intro k j x h; simp at h
  | cons p ps ih =>
    intro k j x h hj
    rw [List.flatMap_cons]
    cases k with
    | zero =>
      simp at h
      subst h
      rw [List.getElem?_append_left (by simp; omega)]; simp
    | succ k =>
      rw [List.getElem?_append_right (by simp; omega)]
      have : (k + 1) * 3 + j - [Value.string (S p.1), .int .i64 p.2.1, .int .i64 p.2.2].length = k * 3 + j := by simp; omega
      rw [this]
      exact ih k j x (by simpa using h) hj

set_option maxRecDepth 100000 in
set_option maxRecDepth 50000 in
set_option maxHeartbeats 4000000 in
theorem lot_any (w : World) : Calls Try.prog 10 #[] w fun e w' => e = .returned (.slice (some ⟨w.heap.size, 0, none⟩) 46 46) ∧ w' = w.alloc (.cells lotCells.toArray 26) := by
  go_enter Try.func10, Try.ntmps10
  go_wp2
  go_ret
  exact ⟨rfl, congrArg (fun c => w.alloc (.cells c 26)) (by kernel_rfl)⟩
end Go.Proofs.Ytfbkjopidjojeab
