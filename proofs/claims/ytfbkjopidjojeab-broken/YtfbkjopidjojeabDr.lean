/-
  The law Broken: its table; the model reckoned.
-/
import Derived.Test.YtfbkjopidjojeabDq
namespace Go.Proofs.Ytfbkjopidjojeab
open Go.RowKit

/-- On what a step hangs at once, reckoned. -/
def succL (qs : List St) (a : Nat) : List Nat := match qs[a]? with
  | none => []
  | some s => if s.kind == 9 then [] else s.uses
theorem succ_iff {qs : List St} {a b : Nat} : b ∈ succL qs a ↔ Edge qs a b := by
  unfold succL Edge
  cases h : qs[a]? with
  | none => simp
  | some s =>
    by_cases h9 : s.kind = 9
    · simp [h9]
    · simp [h9]
def growL (qs : List St) (C : List Nat) : List Nat := C ++ (C.flatMap (succL qs)).filter fun x => !C.contains x
def reachL (qs : List St) (a : Nat) : Nat → List Nat
  | 0 => succL qs a
  | n + 1 => growL qs (reachL qs a n)
theorem reachL_sound {qs : List St} {a : Nat} : ∀ {n x : Nat}, x ∈ reachL qs a n → Reach qs a x := by
  intro n
  induction n with
  | zero => intro x hx; exact .one (succ_iff.1 hx)
  | succ n ih =>
    intro x hx
    rcases List.mem_append.1 hx with h | h
    · exact ih h
    · obtain ⟨y, hy, hxy⟩ := List.mem_flatMap.1 (List.mem_filter.1 h).1
      exact .more (ih hy) (succ_iff.1 hxy)
theorem reachL_base {qs : List St} {a x : Nat} : ∀ {n : Nat}, x ∈ succL qs a → x ∈ reachL qs a n := by
  intro n hx
  induction n with
  | zero => exact hx
  | succ n ih => exact List.mem_append_left _ ih
def closedL (qs : List St) (C : List Nat) : Bool := C.all fun x => (succL qs x).all fun y => C.contains y
def hangC (qs : List St) (a : Nat) : Bool := (reachL qs a (qs.length + 1)).contains a
theorem hang_c {qs : List St} {a : Nat} (h : closedL qs (reachL qs a (qs.length + 1)) = true) : hangB qs a = hangC qs a := by
  apply hang_eq
  unfold hangC
  rw [List.contains_iff_mem]
  constructor
  · exact fun hx => reachL_sound hx
  · intro hr
    have key : ∀ x, Reach qs a x → x ∈ reachL qs a (qs.length + 1) := by
      intro x hx
      induction hx with
      | one he => exact reachL_base (succ_iff.2 he)
      | more _ he ih =>
        unfold closedL at h
        have h1 := List.all_eq_true.1 h _ ih
        have h2 := List.all_eq_true.1 h1 _ (succ_iff.2 he)
        simpa using h2
    exact key a hr
theorem firstF_congr {c : Nat} {qs : List St} {f g : Nat → Bool} (h : ∀ k, k < qs.length → f k = g k) : firstF c qs f = firstF c qs g := by
  have : (List.range qs.length).find? f = (List.range qs.length).find? g := by
    have key : ∀ l : List Nat, (∀ k ∈ l, f k = g k) → l.find? f = l.find? g := by
      intro l
      induction l with
      | nil => intro _; rfl
      | cons a r ih =>
        intro hl
        rw [List.find?_cons, List.find?_cons, hl a (by simp), ih (fun k hk => hl k (by simp [hk]))]
    exact key _ fun k hk => h k (List.mem_range.1 hk)
  unfold firstF; rw [this]

/-- Does a text give this error and this line (0: a program)? -/
def checkRow (t : List UInt8) (f : Flt) : Bool := match sourceL t with
  | .error g => g == f
  | .ok ls => if (twF ls).1 = 0 then match linkL ls ls with
      | .error g => g == f
      | .ok qs => (List.range qs.length).all (fun k => closedL qs (reachL qs k (qs.length + 1))) &&
        (if (firstF 9 qs (hangC qs)).1 = 0 then match solveL (qs.length + 1) (qs.map give) with
          | .error g => g == f
          | .ok rs => if (firstF 10 rs (badFit rs)).1 = 0 then f == (0, 0) else firstF 10 rs (badFit rs) == f
        else firstF 9 qs (hangC qs) == f)
    else twF ls == f
theorem check_ok {t : List UInt8} {f : Flt} (h : checkRow t f = true) : (f = (0, 0) ∧ ∃ rs, compF t = .ok rs) ∨ compF t = .error f := by
  unfold checkRow at h
  unfold compF
  cases hs : sourceL t with
  | error g => rw [hs] at h; right; simp only at h ⊢; rw [beq_iff_eq.1 h]
  | ok ls =>
    rw [hs] at h
    simp only at h ⊢
    unfold makeF
    split at h
    · rename_i h1
      rw [if_pos h1]
      cases hl : linkL ls ls with
      | error g => rw [hl] at h; right; simp only at h ⊢; rw [beq_iff_eq.1 h]
      | ok qs =>
        rw [hl] at h
        simp only [Bool.and_eq_true] at h ⊢
        obtain ⟨hc, h⟩ := h
        have hf : firstF 9 qs (hangB qs) = firstF 9 qs (hangC qs) := firstF_congr fun k hk => hang_c (List.all_eq_true.1 hc k (List.mem_range.2 hk))
        rw [hf]
        split at h
        · rename_i h2
          rw [if_pos h2]
          cases hv : solveL (qs.length + 1) (qs.map give) with
          | error g => rw [hv] at h; right; simp only at h ⊢; rw [beq_iff_eq.1 h]
          | ok rs =>
            rw [hv] at h
            simp only at h ⊢
            split at h
            · rename_i h3
              rw [if_pos h3]
              left; exact ⟨beq_iff_eq.1 h, rs, rfl⟩
            · rename_i h3
              rw [if_neg h3]
              right; rw [beq_iff_eq.1 h]
        · rename_i h2
          rw [if_neg h2]
          right; rw [beq_iff_eq.1 h]
    · rename_i h1
      rw [if_neg h1]
      right; rw [beq_iff_eq.1 h]

/-- The table. -/
def lotT : List (List UInt8 × Flt) := [
  ([], (0, 0)),
  ([32, 32, 10, 10, 32], (0, 0)),
  ([105, 110, 32, 120, 32, 40, 49, 41, 10, 32, 111, 117, 116, 32, 32, 120, 32], (0, 0)),
  ([111, 117, 116, 32, 120, 10, 105, 110, 32, 120, 32, 40, 49, 41], (0, 0)),
  ([105, 110, 32, 120, 32, 40, 49, 41, 10, 111, 117, 116, 32, 120, 10, 111, 117, 116, 32, 120], (0, 0)),
  ([9, 105, 110, 32, 120, 32, 40, 49, 41], (5, 1)),
  ([105, 110, 32, 120, 32, 40, 49, 41, 9], (5, 1)),
  ([105, 110, 32, 120, 32, 40, 49, 48, 48, 48, 48, 48, 48, 48, 48, 41, 10, 105, 110, 32, 121, 32, 40, 48, 49, 48, 48, 48, 48, 48, 48, 48, 48, 41, 10, 122, 32, 61, 32, 109, 101, 114, 103, 101, 32, 40, 49, 48, 41, 32, 120, 32, 121], (2, 3)),
  ([97, 32, 61, 32, 97, 100, 100, 32, 97, 32, 97], (9, 1)),
  ([110, 32, 61, 32, 102, 98, 121, 32, 48, 32, 110], (10, 1)),
  ([105, 110, 32, 120, 32, 40, 49, 48, 41, 10, 105, 110, 32, 121, 32, 40, 48, 49, 41, 10, 115, 32, 61, 32, 97, 100, 100, 32, 120, 32, 121], (10, 3)),
  ([105, 110, 32, 120, 32, 40, 49, 48, 41, 10, 121, 32, 61, 32, 98, 117, 102, 102, 101, 114, 32, 120, 32, 40, 49, 49, 48, 41], (10, 2)),
  ([105, 110, 32, 120, 32, 40, 49, 48, 41, 10, 121, 32, 61, 32, 98, 117, 102, 102, 101, 114, 32, 120, 32, 40, 49, 41], (10, 2)),
  ([105, 110, 32, 120, 32, 40, 48, 49, 41, 10, 121, 32, 61, 32, 98, 117, 102, 102, 101, 114, 32, 120, 32, 40, 49, 48, 41], (10, 2)),
  ([120, 32, 61, 32, 119, 104, 101, 110, 32, 121, 32, 40, 49, 41], (8, 1)),
  ([111, 117, 116, 32, 121], (8, 1)),
  ([105, 110, 32, 105, 110, 32, 40, 49, 41], (5, 1)),
  ([105, 110, 32, 120, 32, 49, 48], (5, 1)),
  ([105, 110, 32, 120, 32, 40, 41], (5, 1)),
  ([120, 32, 61, 32, 97, 100, 100, 32, 121], (5, 1)),
  ([120, 32, 61, 32, 102, 111, 111, 32, 121, 32, 122], (5, 1)),
  ([120, 32, 97, 100, 100, 32, 121, 32, 122], (5, 1)),
  ([88, 32, 61, 32, 97, 100, 100, 32, 121, 32, 122], (5, 1)),
  ([116, 111, 111, 108, 111, 110, 103, 32, 61, 32, 97, 100, 100, 32, 121, 32, 122], (5, 1)),
  ([120, 32, 61, 32, 99, 111, 110, 115, 116, 32, 49, 50, 51, 52, 53, 54, 55, 56, 57, 48, 49, 32, 40, 49, 41], (5, 1)),
  ([120, 32, 61, 32, 99, 111, 110, 115, 116, 32, 45, 45, 49, 32, 40, 49, 41], (5, 1)),
  ([120, 32, 61, 32, 99, 111, 110, 115, 116, 32, 45, 32, 40, 49, 41], (5, 1)),
  ([10, 10, 120, 32, 61, 32, 102, 98, 121, 32, 121, 32, 49], (5, 3)),
  ([111, 117, 116, 32, 105, 110], (5, 1)),
  ([120, 32, 61, 32, 109, 101, 114, 103, 101, 32, 97, 32, 40, 49, 41, 32, 98], (5, 1)),
  ([120, 32, 61, 32, 99, 111, 110, 115, 116, 32, 49, 32, 40, 49, 41, 32, 50], (5, 1)),
  ([105, 110, 32, 120, 32, 40, 49, 41, 9, 111, 117, 116, 32, 120], (5, 1)),
  ([105, 110, 32, 120, 32, 40, 49, 41, 10, 120, 32, 61, 32, 97, 100, 100, 32, 120, 32, 120], (7, 2)),
  ([120, 32, 61, 32, 97, 100, 100, 32, 121, 32, 121, 10, 121, 32, 61, 32, 102, 98, 121, 32, 48, 32, 120, 10, 122, 32, 61, 32, 97, 100, 100, 32, 113, 32, 113], (8, 3)),
  ([121, 32, 61, 32, 97, 100, 100, 32, 122, 32, 122, 10, 122, 32, 61, 32, 97, 100, 100, 32, 120, 32, 120, 10, 120, 32, 61, 32, 98, 117, 102, 102, 101, 114, 32, 122, 32, 40, 49, 41], (9, 2)),
  ([121, 32, 61, 32, 97, 100, 100, 32, 122, 32, 122, 10, 122, 32, 61, 32, 97, 100, 100, 32, 120, 32, 120, 10, 120, 32, 61, 32, 119, 104, 101, 110, 32, 122, 32, 40, 49, 41, 10, 113, 32, 61, 32, 97, 100, 100, 32, 121, 32, 121], (9, 2)),
  ([113, 32, 61, 32, 97, 100, 100, 32, 121, 32, 121, 10, 121, 32, 61, 32, 102, 98, 121, 32, 48, 32, 122, 10, 122, 32, 61, 32, 97, 100, 100, 32, 121, 32, 121], (10, 1)),
  ([105, 110, 32, 120, 32, 40, 49, 41, 10, 97, 32, 61, 32, 97, 100, 100, 32, 120, 32, 120, 10, 98, 32, 61, 32, 97, 100, 100, 32, 121, 32, 120, 10, 121, 32, 61, 32, 97, 100, 100, 32, 98, 32, 98], (9, 3)),
  ([105, 110, 32, 120, 32, 40, 49, 41, 10, 97, 32, 61, 32, 119, 104, 101, 110, 32, 120, 32, 40, 49, 48, 41, 10, 98, 32, 61, 32, 119, 104, 101, 110, 32, 120, 32, 40, 49, 48, 41, 10, 121, 32, 61, 32, 109, 101, 114, 103, 101, 32, 40, 49, 48, 41, 32, 97, 32, 98], (10, 4)),
  ([105, 110, 32, 120, 32, 40, 49, 41, 10, 97, 32, 61, 32, 119, 104, 101, 110, 32, 120, 32, 40, 49, 48, 41, 10, 98, 32, 61, 32, 119, 104, 101, 110, 32, 120, 32, 40, 48, 49, 41, 10, 121, 32, 61, 32, 109, 101, 114, 103, 101, 32, 40, 48, 49, 41, 32, 97, 32, 98], (10, 4)),
  ([105, 110, 32, 120, 32, 40, 49, 48, 48, 41, 10, 105, 110, 32, 121, 32, 40, 48, 49, 48, 41, 10, 122, 32, 61, 32, 109, 101, 114, 103, 101, 32, 40, 49, 48, 41, 32, 120, 32, 121], (0, 0)),
  ([105, 110, 32, 120, 32, 40, 49, 48, 48, 41, 10, 105, 110, 32, 121, 32, 40, 48, 49, 48, 41, 10, 122, 32, 61, 32, 109, 101, 114, 103, 101, 32, 40, 49, 41, 32, 120, 32, 121], (10, 3)),
  ([105, 110, 32, 120, 32, 40, 49, 48, 48, 48, 48, 48, 48, 48, 48, 48, 48, 41, 10, 97, 32, 61, 32, 119, 104, 101, 110, 32, 120, 32, 40, 49, 48, 48, 48, 48, 48, 48, 41], (2, 2)),
  ([105, 110, 32, 120, 32, 40, 49, 48, 48, 48, 48, 48, 48, 48, 41, 10, 97, 32, 61, 32, 119, 104, 101, 110, 32, 120, 32, 40, 49, 48, 48, 48, 48, 48, 48, 48, 41, 10, 98, 32, 61, 32, 119, 104, 101, 110, 32, 97, 32, 40, 49, 48, 41], (2, 3)),
  ([105, 110, 32, 120, 32, 40, 49, 48, 48, 48, 48, 48, 48, 48, 41, 10, 97, 32, 61, 32, 119, 104, 101, 110, 32, 120, 32, 40, 49, 48, 48, 48, 48, 48, 48, 48, 41, 10, 98, 32, 61, 32, 97, 100, 100, 32, 97, 32, 97], (0, 0)),
  ([105, 110, 32, 120, 32, 40, 49, 48, 41, 10, 105, 110, 32, 121, 32, 40, 48, 49, 41, 10, 115, 32, 61, 32, 97, 100, 100, 32, 120, 32, 121, 10, 97, 32, 61, 32, 119, 104, 101, 110, 32, 120, 32, 40, 49, 48, 48, 48, 48, 48, 48, 48, 48, 48, 48, 48, 41, 10, 98, 32, 61, 32, 119, 104, 101, 110, 32, 97, 32, 40, 49, 48, 48, 48, 41], (2, 5))]
theorem lot_0 : checkRow ((lotT[0]?.getD ([], (0, 0))).1) ((lotT[0]?.getD ([], (0, 0))).2) = true := by kernel_rfl
theorem lot_1 : checkRow ((lotT[1]?.getD ([], (0, 0))).1) ((lotT[1]?.getD ([], (0, 0))).2) = true := by kernel_rfl
theorem lot_2 : checkRow ((lotT[2]?.getD ([], (0, 0))).1) ((lotT[2]?.getD ([], (0, 0))).2) = true := by kernel_rfl
theorem lot_3 : checkRow ((lotT[3]?.getD ([], (0, 0))).1) ((lotT[3]?.getD ([], (0, 0))).2) = true := by kernel_rfl
theorem lot_4 : checkRow ((lotT[4]?.getD ([], (0, 0))).1) ((lotT[4]?.getD ([], (0, 0))).2) = true := by kernel_rfl
theorem lot_5 : checkRow ((lotT[5]?.getD ([], (0, 0))).1) ((lotT[5]?.getD ([], (0, 0))).2) = true := by kernel_rfl
theorem lot_6 : checkRow ((lotT[6]?.getD ([], (0, 0))).1) ((lotT[6]?.getD ([], (0, 0))).2) = true := by kernel_rfl
theorem lot_7 : checkRow ((lotT[7]?.getD ([], (0, 0))).1) ((lotT[7]?.getD ([], (0, 0))).2) = true := by kernel_rfl
theorem lot_8 : checkRow ((lotT[8]?.getD ([], (0, 0))).1) ((lotT[8]?.getD ([], (0, 0))).2) = true := by kernel_rfl
theorem lot_9 : checkRow ((lotT[9]?.getD ([], (0, 0))).1) ((lotT[9]?.getD ([], (0, 0))).2) = true := by kernel_rfl
theorem lot_10 : checkRow ((lotT[10]?.getD ([], (0, 0))).1) ((lotT[10]?.getD ([], (0, 0))).2) = true := by kernel_rfl
theorem lot_11 : checkRow ((lotT[11]?.getD ([], (0, 0))).1) ((lotT[11]?.getD ([], (0, 0))).2) = true := by kernel_rfl
theorem lot_12 : checkRow ((lotT[12]?.getD ([], (0, 0))).1) ((lotT[12]?.getD ([], (0, 0))).2) = true := by kernel_rfl
theorem lot_13 : checkRow ((lotT[13]?.getD ([], (0, 0))).1) ((lotT[13]?.getD ([], (0, 0))).2) = true := by kernel_rfl
theorem lot_14 : checkRow ((lotT[14]?.getD ([], (0, 0))).1) ((lotT[14]?.getD ([], (0, 0))).2) = true := by kernel_rfl
theorem lot_15 : checkRow ((lotT[15]?.getD ([], (0, 0))).1) ((lotT[15]?.getD ([], (0, 0))).2) = true := by kernel_rfl
theorem lot_16 : checkRow ((lotT[16]?.getD ([], (0, 0))).1) ((lotT[16]?.getD ([], (0, 0))).2) = true := by kernel_rfl
theorem lot_17 : checkRow ((lotT[17]?.getD ([], (0, 0))).1) ((lotT[17]?.getD ([], (0, 0))).2) = true := by kernel_rfl
theorem lot_18 : checkRow ((lotT[18]?.getD ([], (0, 0))).1) ((lotT[18]?.getD ([], (0, 0))).2) = true := by kernel_rfl
theorem lot_19 : checkRow ((lotT[19]?.getD ([], (0, 0))).1) ((lotT[19]?.getD ([], (0, 0))).2) = true := by kernel_rfl
theorem lot_20 : checkRow ((lotT[20]?.getD ([], (0, 0))).1) ((lotT[20]?.getD ([], (0, 0))).2) = true := by kernel_rfl
theorem lot_21 : checkRow ((lotT[21]?.getD ([], (0, 0))).1) ((lotT[21]?.getD ([], (0, 0))).2) = true := by kernel_rfl
theorem lot_22 : checkRow ((lotT[22]?.getD ([], (0, 0))).1) ((lotT[22]?.getD ([], (0, 0))).2) = true := by kernel_rfl
theorem lot_23 : checkRow ((lotT[23]?.getD ([], (0, 0))).1) ((lotT[23]?.getD ([], (0, 0))).2) = true := by kernel_rfl
theorem lot_24 : checkRow ((lotT[24]?.getD ([], (0, 0))).1) ((lotT[24]?.getD ([], (0, 0))).2) = true := by kernel_rfl
theorem lot_25 : checkRow ((lotT[25]?.getD ([], (0, 0))).1) ((lotT[25]?.getD ([], (0, 0))).2) = true := by kernel_rfl
theorem lot_26 : checkRow ((lotT[26]?.getD ([], (0, 0))).1) ((lotT[26]?.getD ([], (0, 0))).2) = true := by kernel_rfl
theorem lot_27 : checkRow ((lotT[27]?.getD ([], (0, 0))).1) ((lotT[27]?.getD ([], (0, 0))).2) = true := by kernel_rfl
theorem lot_28 : checkRow ((lotT[28]?.getD ([], (0, 0))).1) ((lotT[28]?.getD ([], (0, 0))).2) = true := by kernel_rfl
theorem lot_29 : checkRow ((lotT[29]?.getD ([], (0, 0))).1) ((lotT[29]?.getD ([], (0, 0))).2) = true := by kernel_rfl
theorem lot_30 : checkRow ((lotT[30]?.getD ([], (0, 0))).1) ((lotT[30]?.getD ([], (0, 0))).2) = true := by kernel_rfl
theorem lot_31 : checkRow ((lotT[31]?.getD ([], (0, 0))).1) ((lotT[31]?.getD ([], (0, 0))).2) = true := by kernel_rfl
theorem lot_32 : checkRow ((lotT[32]?.getD ([], (0, 0))).1) ((lotT[32]?.getD ([], (0, 0))).2) = true := by kernel_rfl
theorem lot_33 : checkRow ((lotT[33]?.getD ([], (0, 0))).1) ((lotT[33]?.getD ([], (0, 0))).2) = true := by kernel_rfl
theorem lot_34 : checkRow ((lotT[34]?.getD ([], (0, 0))).1) ((lotT[34]?.getD ([], (0, 0))).2) = true := by kernel_rfl
theorem lot_35 : checkRow ((lotT[35]?.getD ([], (0, 0))).1) ((lotT[35]?.getD ([], (0, 0))).2) = true := by kernel_rfl
theorem lot_36 : checkRow ((lotT[36]?.getD ([], (0, 0))).1) ((lotT[36]?.getD ([], (0, 0))).2) = true := by kernel_rfl
theorem lot_37 : checkRow ((lotT[37]?.getD ([], (0, 0))).1) ((lotT[37]?.getD ([], (0, 0))).2) = true := by kernel_rfl
theorem lot_38 : checkRow ((lotT[38]?.getD ([], (0, 0))).1) ((lotT[38]?.getD ([], (0, 0))).2) = true := by kernel_rfl
theorem lot_39 : checkRow ((lotT[39]?.getD ([], (0, 0))).1) ((lotT[39]?.getD ([], (0, 0))).2) = true := by kernel_rfl
theorem lot_40 : checkRow ((lotT[40]?.getD ([], (0, 0))).1) ((lotT[40]?.getD ([], (0, 0))).2) = true := by kernel_rfl
theorem lot_41 : checkRow ((lotT[41]?.getD ([], (0, 0))).1) ((lotT[41]?.getD ([], (0, 0))).2) = true := by kernel_rfl
theorem lot_42 : checkRow ((lotT[42]?.getD ([], (0, 0))).1) ((lotT[42]?.getD ([], (0, 0))).2) = true := by kernel_rfl
theorem lot_43 : checkRow ((lotT[43]?.getD ([], (0, 0))).1) ((lotT[43]?.getD ([], (0, 0))).2) = true := by kernel_rfl
theorem lot_44 : checkRow ((lotT[44]?.getD ([], (0, 0))).1) ((lotT[44]?.getD ([], (0, 0))).2) = true := by kernel_rfl
theorem lot_45 : checkRow ((lotT[45]?.getD ([], (0, 0))).1) ((lotT[45]?.getD ([], (0, 0))).2) = true := by kernel_rfl
theorem lot_all : ∀ r, r < 46 → ∃ x, lotT[r]? = some x ∧ checkRow x.1 x.2 = true := by
  intro r hr
  have h : r = 0 ∨ r = 1 ∨ r = 2 ∨ r = 3 ∨ r = 4 ∨ r = 5 ∨ r = 6 ∨ r = 7 ∨ r = 8 ∨ r = 9 ∨ r = 10 ∨ r = 11 ∨ r = 12 ∨ r = 13 ∨ r = 14 ∨ r = 15 ∨ r = 16 ∨ r = 17 ∨ r = 18 ∨ r = 19 ∨ r = 20 ∨ r = 21 ∨ r = 22 ∨ r = 23 ∨ r = 24 ∨ r = 25 ∨ r = 26 ∨ r = 27 ∨ r = 28 ∨ r = 29 ∨ r = 30 ∨ r = 31 ∨ r = 32 ∨ r = 33 ∨ r = 34 ∨ r = 35 ∨ r = 36 ∨ r = 37 ∨ r = 38 ∨ r = 39 ∨ r = 40 ∨ r = 41 ∨ r = 42 ∨ r = 43 ∨ r = 44 ∨ r = 45 := by omega
  rcases h with rfl | rfl | rfl | rfl | rfl | rfl | rfl | rfl | rfl | rfl | rfl | rfl | rfl | rfl | rfl | rfl | rfl | rfl | rfl | rfl | rfl | rfl | rfl | rfl | rfl | rfl | rfl | rfl | rfl | rfl | rfl | rfl | rfl | rfl | rfl | rfl | rfl | rfl | rfl | rfl | rfl | rfl | rfl | rfl | rfl | rfl
  · exact ⟨_, rfl, lot_0⟩
  · exact ⟨_, rfl, lot_1⟩
  · exact ⟨_, rfl, lot_2⟩
  · exact ⟨_, rfl, lot_3⟩
  · exact ⟨_, rfl, lot_4⟩
  · exact ⟨_, rfl, lot_5⟩
  · exact ⟨_, rfl, lot_6⟩
  · exact ⟨_, rfl, lot_7⟩
  · exact ⟨_, rfl, lot_8⟩
  · exact ⟨_, rfl, lot_9⟩
  · exact ⟨_, rfl, lot_10⟩
  · exact ⟨_, rfl, lot_11⟩
  · exact ⟨_, rfl, lot_12⟩
  · exact ⟨_, rfl, lot_13⟩
  · exact ⟨_, rfl, lot_14⟩
  · exact ⟨_, rfl, lot_15⟩
  · exact ⟨_, rfl, lot_16⟩
  · exact ⟨_, rfl, lot_17⟩
  · exact ⟨_, rfl, lot_18⟩
  · exact ⟨_, rfl, lot_19⟩
  · exact ⟨_, rfl, lot_20⟩
  · exact ⟨_, rfl, lot_21⟩
  · exact ⟨_, rfl, lot_22⟩
  · exact ⟨_, rfl, lot_23⟩
  · exact ⟨_, rfl, lot_24⟩
  · exact ⟨_, rfl, lot_25⟩
  · exact ⟨_, rfl, lot_26⟩
  · exact ⟨_, rfl, lot_27⟩
  · exact ⟨_, rfl, lot_28⟩
  · exact ⟨_, rfl, lot_29⟩
  · exact ⟨_, rfl, lot_30⟩
  · exact ⟨_, rfl, lot_31⟩
  · exact ⟨_, rfl, lot_32⟩
  · exact ⟨_, rfl, lot_33⟩
  · exact ⟨_, rfl, lot_34⟩
  · exact ⟨_, rfl, lot_35⟩
  · exact ⟨_, rfl, lot_36⟩
  · exact ⟨_, rfl, lot_37⟩
  · exact ⟨_, rfl, lot_38⟩
  · exact ⟨_, rfl, lot_39⟩
  · exact ⟨_, rfl, lot_40⟩
  · exact ⟨_, rfl, lot_41⟩
  · exact ⟨_, rfl, lot_42⟩
  · exact ⟨_, rfl, lot_43⟩
  · exact ⟨_, rfl, lot_44⟩
  · exact ⟨_, rfl, lot_45⟩
end Go.Proofs.Ytfbkjopidjojeab
