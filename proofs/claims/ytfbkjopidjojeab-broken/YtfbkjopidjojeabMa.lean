/-
  Plain mathematics of words, part a: bits as bytes; nothing of the dump.
-/
import Derived.WalkKit
namespace Go.Proofs.Ytfbkjopidjojeab
open Go.RowKit

/-- A bit as a byte. -/
def bb (x : Bool) : UInt8 := if x then 49 else 48
/-- Bits as a string. -/
def bs (l : List Bool) : ByteArray := ⟨(l.map bb).toArray⟩

theorem bs_toList (l : List Bool) : (bs l).data.toList = l.map bb := by simp [bs]
theorem bs_size (l : List Bool) : (bs l).size = l.length := by
  show (l.map bb).toArray.size = l.length
  simp
theorem bb_inj {a b : Bool} (h : bb a = bb b) : a = b := by
  revert h; cases a <;> cases b <;> decide
theorem bs_inj {a b : List Bool} (h : bs a = bs b) : a = b := by
  have e : a.map bb = b.map bb := by rw [← bs_toList, ← bs_toList, h]
  exact (List.map_inj_right (fun _ _ h => bb_inj h)).1 e
theorem bs_get (l : List Bool) (k : Nat) (h : k < (bs l).size) : (bs l)[k] = bb (l[k]'(by rw [bs_size] at h; exact h)) := by
  have e : (bs l)[k] = (bs l).data[k]'h := rfl
  rw [e]
  simp only [bs, List.getElem_toArray, List.getElem_map]
theorem bb_toNat (x : Bool) : ((bb x).toNat : Int) = if x then 49 else 48 := by cases x <;> decide
theorem bb_49 (x : Bool) : (((bb x).toNat : Int) == 49) = x := by cases x <;> decide

/-- How many bytes of a string are the digit one. -/
def cn (l : List UInt8) : Int := ((l.countP fun c => c.toNat == 49 : Nat) : Int)
theorem cn_le (l : List UInt8) : 0 ≤ cn l ∧ cn l ≤ l.length := by
  unfold cn; exact ⟨by omega, by have := List.countP_le_length (p := fun c : UInt8 => c.toNat == 49) (l := l); omega⟩
theorem take_snoc (s : ByteArray) (k : Nat) (h : k < s.size) : s.data.toList.take (k + 1) = s.data.toList.take k ++ [s[k]] := by
  rw [List.take_succ_eq_append_getElem (by simpa using h)]; rfl
theorem get_toList (s : ByteArray) (k : Nat) (h : k < s.size) : s.data.toList[k]'(by simpa using h) = s[k] := by
  rw [Array.getElem_toList]; rfl
theorem cn_snoc (l : List UInt8) (c : UInt8) : cn (l ++ [c]) = cn l + if c.toNat = 49 then 1 else 0 := by
  unfold cn
  rw [List.countP_append]
  by_cases h : c.toNat = 49
  · rw [if_pos h]; simp [h]
  · rw [if_neg h]; simp [h]
theorem cn_yes {s : ByteArray} {k : Nat} (h : k < s.size) (h1 : ((s[k].toNat : Int) == 49) = true) : cn (s.data.toList.take (k + 1)) = cn (s.data.toList.take k) + 1 := by
  rw [take_snoc s k h, cn_snoc, if_pos (by have := of_decide_eq_true h1; omega : s[k].toNat = 49)]
theorem cn_no {s : ByteArray} {k : Nat} (h : k < s.size) (h1 : ((s[k].toNat : Int) == 49) = false) : cn (s.data.toList.take (k + 1)) = cn (s.data.toList.take k) := by
  have h2 : ¬ s[k].toNat = 49 := by intro e; rw [e] at h1; simp at h1
  rw [take_snoc s k h, cn_snoc, if_neg h2]; omega
theorem cn_bs (l : List Bool) : cn (bs l).data.toList = (l.count true : Nat) := by
  rw [bs_toList]; unfold cn
  rw [List.countP_map, List.count]
  congr 1
  apply List.countP_congr
  intro x _
  cases x <;> simp [bb]

/-- Where the first opening bracket stands; the length, if there is none. -/
def foN (l : List UInt8) : Nat := l.findIdx fun c => c.toNat == 40
/-- The same, or -1. -/
def fo (l : List UInt8) : Int := if foN l < l.length then (foN l : Int) else -1
theorem foN_le (l : List UInt8) : foN l ≤ l.length := List.findIdx_le_length
theorem fo_hit {s : ByteArray} {k : Nat} (h : k < s.size) (hk : k ≤ foN s.data.toList) (h1 : ((s[k].toNat : Int) == 40) = true) : fo s.data.toList = k := by
  have hl : k < s.data.toList.length := by simpa using h
  have e : foN s.data.toList = k := by
    rcases Nat.lt_or_ge k (foN s.data.toList) with g | g
    · exfalso
      have t := List.not_of_lt_findIdx g
      rw [get_toList s k h] at t
      have h2 : (s[k].toNat : Int) = 40 := of_decide_eq_true h1
      have h3 : s[k].toNat = 40 := by omega
      rw [h3] at t; simp at t
    · omega
  unfold fo; rw [e, if_pos hl]
theorem fo_miss {s : ByteArray} {k : Nat} (h : k < s.size) (hk : k ≤ foN s.data.toList) (h1 : ((s[k].toNat : Int) == 40) = false) : k + 1 ≤ foN s.data.toList := by
  have hl : k < s.data.toList.length := by simpa using h
  rcases Nat.lt_or_ge k (foN s.data.toList) with g | g
  · omega
  · exfalso
    have e : foN s.data.toList = k := by omega
    have hlt : s.data.toList.findIdx (fun c => c.toNat == 40) < s.data.toList.length := by
      show foN s.data.toList < _; rw [e]; exact hl
    have t := List.findIdx_getElem (w := hlt)
    have e2 : s.data.toList[s.data.toList.findIdx (fun c => c.toNat == 40)] = s[k] := by
      have : s.data.toList.findIdx (fun c => c.toNat == 40) = k := e
      simp only [this]; exact get_toList s k h
    rw [e2] at t
    simp at t; rw [t] at h1; simp at h1
theorem fo_end {s : ByteArray} {k : Nat} (h : ¬ k < s.size) (hk : k ≤ foN s.data.toList) : fo s.data.toList = -1 := by
  unfold fo; rw [if_neg]; have : s.data.toList.length = s.size := by simp
  omega

/-- All bytes are digits of bits. -/
def allBits (l : List UInt8) : Bool := l.all fun c => c.toNat == 48 || c.toNat == 49
theorem allBits_snoc (s : ByteArray) (k : Nat) (h : k < s.size) : allBits (s.data.toList.take (k + 1)) = (allBits (s.data.toList.take k) && (s[k].toNat == 48 || s[k].toNat == 49)) := by
  rw [take_snoc s k h]; simp [allBits]
theorem allBits_take {l : List UInt8} (k : Nat) (h : allBits l = true) : allBits (l.take k) = true := by
  unfold allBits at *; rw [List.all_eq_true] at *; intro x hx; exact h x (List.mem_of_mem_take hx)
theorem allBits_bad {s : ByteArray} {k : Nat} (h : k < s.size) (h1 : ((s[k].toNat : Int) != 48) = true) (h2 : ((s[k].toNat : Int) != 49) = true) : allBits s.data.toList = false := by
  rcases hb : allBits s.data.toList with _ | _
  · rfl
  · have := allBits_take (k + 1) hb
    rw [allBits_snoc s k h] at this
    simp at this h1 h2; omega
theorem allBits_48 {s : ByteArray} {k : Nat} (h : k < s.size) (hf : allBits (s.data.toList.take k) = true) (h1 : (s[k].toNat : Int) = 48) : allBits (s.data.toList.take (k + 1)) = true := by
  have : s[k].toNat = 48 := by omega
  rw [allBits_snoc s k h, hf, this]; rfl
theorem allBits_49 {s : ByteArray} {k : Nat} (h : k < s.size) (hf : allBits (s.data.toList.take k) = true) (h0 : ¬ (s[k].toNat : Int) = 48) (h1 : ((s[k].toNat : Int) != 48) = false ∨ ((s[k].toNat : Int) != 49) = false) : allBits (s.data.toList.take (k + 1)) = true := by
  have : s[k].toNat = 49 := by
    rcases h1 with h1 | h1
    · simp at h1; omega
    · simp at h1; omega
  rw [allBits_snoc s k h, hf, this]; rfl
/-- Is it a part of a word? -/
def isP (l : List UInt8) : Bool := decide (l.length ≤ 12) && allBits l

theorem lcm_step {a b j : Nat} (ha : 0 < a) (hle : a * j ≤ Nat.lcm a b) (h : ¬ (a * j) % b = 0) : a * (j + 1) ≤ Nat.lcm a b := by
  obtain ⟨m, hm⟩ := Nat.dvd_lcm_left a b
  rw [hm] at hle ⊢
  have hne : j ≠ m := by
    intro e; subst e
    apply h; rw [← hm]; exact Nat.mod_eq_zero_of_dvd (Nat.dvd_lcm_right a b)
  have hjm : j ≤ m := Nat.le_of_mul_le_mul_left hle ha
  exact Nat.mul_le_mul_left a (by omega)
theorem lcm_done {a b j : Nat} (ha : 0 < a) (hj : 0 < j) (hle : a * j ≤ Nat.lcm a b) (h : (a * j) % b = 0) : a * j = Nat.lcm a b := by
  have hd : Nat.lcm a b ∣ a * j := Nat.lcm_dvd (Nat.dvd_mul_right a j) (Nat.dvd_of_mod_eq_zero h)
  have := Nat.le_of_dvd (Nat.mul_pos ha hj) hd
  omega
theorem lcm_le_mul (a b : Nat) : Nat.lcm a b ≤ a * b := by
  unfold Nat.lcm; exact Nat.div_le_self _ _
end Go.Proofs.Ytfbkjopidjojeab
