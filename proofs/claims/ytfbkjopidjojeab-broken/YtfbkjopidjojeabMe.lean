/-
  Plain mathematics of words, part e: which texts are words.
-/
import Derived.Test.YtfbkjopidjojeabMd
namespace Go.Proofs.Ytfbkjopidjojeab

/-- The two parts of a text. -/
def pU (l : List UInt8) : List UInt8 := l.take (foN l)
def pV (l : List UInt8) : List UInt8 := (l.drop (foN l + 1)).take (l.length - foN l - 2)
/-- Is the text a word? -/
def okW (l : List UInt8) : Bool := decide (foN l + 3 ≤ l.length) && (l.getD (l.length - 1) 0 == 41) && isP (pU l) && isP (pV l)
/-- Bytes as bits. -/
def toB (l : List UInt8) : List Bool := l.map fun c => c.toNat == 49
theorem toB_length (l : List UInt8) : (toB l).length = l.length := by simp [toB]
theorem toB_bb {l : List UInt8} (h : allBits l = true) : (toB l).map bb = l := by
  unfold toB
  rw [List.map_map]
  apply List.ext_getElem
  · simp
  · intro i h1 h2
    simp only [List.getElem_map, Function.comp]
    unfold allBits at h
    rw [List.all_eq_true] at h
    have := h l[i] (List.getElem_mem _)
    simp at this
    rcases this with e | e
    · rw [e]; apply UInt8.toNat_inj.1; rw [e]; decide
    · rw [e]; apply UInt8.toNat_inj.1; rw [e]; decide
theorem bs_toB {s : ByteArray} (h : allBits s.data.toList = true) : bs (toB s.data.toList) = s := by
  unfold bs; rw [toB_bb h]
theorem toB_map (l : List Bool) : toB (l.map bb) = l := by
  unfold toB; rw [List.map_map]
  conv => rhs; rw [← List.map_id l]
  apply List.map_congr_left
  intro x _
  cases x <;> rfl
theorem allBits_map (l : List Bool) : allBits (l.map bb) = true := by
  unfold allBits; rw [List.all_eq_true]
  intro c hc
  rw [List.mem_map] at hc
  obtain ⟨x, _, rfl⟩ := hc
  cases x <;> rfl

/-- A word's text as bytes. -/
def txtL (u v : List Bool) : List UInt8 := u.map bb ++ 40 :: (v.map bb ++ [41])
theorem txtL_length (u v : List Bool) : (txtL u v).length = u.length + v.length + 2 := by simp [txtL]; omega
theorem foN_txt (u v : List Bool) : foN (txtL u v) = u.length := by
  unfold foN txtL
  rw [List.findIdx_append]
  have h0 : ∀ x ∈ u.map bb, ¬ ((fun c : UInt8 => c.toNat == 40) x = true) := by
    intro x hx
    rw [List.mem_map] at hx
    obtain ⟨y, _, rfl⟩ := hx
    cases y <;> decide
  have h1 : List.findIdx (fun c : UInt8 => c.toNat == 40) (u.map bb) = (u.map bb).length := List.findIdx_eq_length_of_false (fun x hx => by have := h0 x hx; simpa using this)
  rw [h1, if_neg (Nat.lt_irrefl _), List.findIdx_cons]
  simp
theorem pU_txt (u v : List Bool) : pU (txtL u v) = u.map bb := by
  unfold pU; rw [foN_txt]; unfold txtL
  rw [List.take_left' (by simp)]
theorem pV_txt (u v : List Bool) : pV (txtL u v) = v.map bb := by
  unfold pV; rw [foN_txt, txtL_length]; unfold txtL
  have e : List.drop (u.length + 1) (u.map bb ++ 40 :: (v.map bb ++ [41])) = v.map bb ++ [41] := by
    have : u.map bb ++ 40 :: (v.map bb ++ [41]) = (u.map bb ++ [40]) ++ (v.map bb ++ [41]) := by simp
    rw [this, List.drop_left' (by simp)]
  rw [e, List.take_left' (by simp; omega)]
theorem okW_txt (u v : List Bool) (hu : u.length ≤ 12) (hv : v.length ≤ 12) (hv0 : v ≠ []) : okW (txtL u v) = true := by
  have hl : 0 < v.length := List.length_pos_iff.2 hv0
  unfold okW
  rw [pU_txt, pV_txt, foN_txt, txtL_length]
  have e : (txtL u v).getD (u.length + v.length + 2 - 1) 0 = 41 := by
    have : txtL u v = (u.map bb ++ 40 :: v.map bb) ++ [41] := by simp [txtL]
    rw [this, List.getD_eq_getElem?_getD, List.getElem?_append_right (by simp; omega)]
    have : u.length + v.length + 2 - 1 - (u.map bb ++ 40 :: v.map bb).length = 0 := by simp; omega
    rw [this]; rfl
  rw [e]
  simp [isP, allBits_map, hu, hv]; omega
theorem okW_len {l : List UInt8} (h : okW l = true) : l.length ≤ 26 ∧ (toB (pU l)).length ≤ 12 ∧ (toB (pV l)).length ≤ 12 ∧ toB (pV l) ≠ [] := by
  unfold okW isP at h
  simp at h
  obtain ⟨⟨⟨h1, _⟩, h2, _⟩, h3, _⟩ := h
  rw [toB_length, toB_length]
  have a1 : (pU l).length = foN l := by unfold pU; rw [List.length_take]; omega
  have a2 : (pV l).length = l.length - foN l - 2 := by unfold pV; rw [List.length_take, List.length_drop]; omega
  refine ⟨by omega, h2, h3, ?_⟩
  intro e
  have := toB_length (pV l)
  rw [e] at this; simp at this; omega
end Go.Proofs.Ytfbkjopidjojeab
