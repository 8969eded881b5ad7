/-
  Plain mathematics of words, part f: normal forms of given words, by reckoning.
-/
import Derived.Test.YtfbkjopidjojeaaMe
namespace Go.Proofs.Ytfbkjopidjojeaa

/-- Are the bits those p later? -/
def perB (l : List Bool) (p : Nat) : Bool := (List.range (l.length - p)).all fun i => l.getD (i + p) false == l.getD i false
theorem perB_of {l : List Bool} {p : Nat} (h : Per l p) : perB l p = true := by
  unfold perB; rw [List.all_eq_true]
  intro i hi
  rw [List.mem_range] at hi
  simp only [beq_iff_eq]
  exact h i (by omega)
/-- Are both parts the shortest? -/
def redB (u v : List Bool) : Bool :=
  decide (0 < v.length) && ((List.range v.length).all fun p => decide (p = 0) || !decide (v.length % p = 0) || !perB v p) &&
    (decide (u.length = 0) || (u.getD (u.length - 1) false != v.getD (v.length - 1) false))
theorem red_of {u v : List Bool} (h : redB u v = true) : Red u v := by
  unfold redB at h
  simp only [Bool.and_eq_true, Bool.or_eq_true, decide_eq_true_eq, List.all_eq_true, List.mem_range, Bool.not_eq_true', bne_iff_ne] at h
  obtain ⟨⟨h1, h2⟩, h3⟩ := h
  refine ⟨List.length_pos_iff.1 h1, fun p hp hlt hd hper => ?_, fun k hk => ?_⟩
  · rcases h2 p hlt with (g | g) | g
    · omega
    · have := Nat.mod_eq_zero_of_dvd hd
      rw [this] at g; simp at g
    · rw [perB_of hper] at g; cases g
  · rcases h3 with g | g
    · omega
    · have : u.length - 1 = k := by omega
      rw [this] at g; exact g
/-- The same bits so far? -/
def sameB (f g : Nat → Bool) (n : Nat) : Bool := (List.range n).all fun i => f i == g i
theorem nf_check {f : Nat → Bool} {u v : List Bool} {m p k : Nat} (hE : EP f m p) (hr : redB u v = true) (hk : max u.length m + v.length * p = k) (hs : sameB (bitAt u v) f k = true) : NF f u v := by
  have hR := red_of hr
  refine hR.nf.congr ?_
  have h1 := (EP_bitAt u v hR.ne).mono (Nat.le_max_left u.length m)
  have h2 := hE.mono (Nat.le_max_right u.length m)
  apply eq_of_EP h1 h2
  intro n hn
  unfold sameB at hs
  rw [List.all_eq_true] at hs
  have := hs n (List.mem_range.2 (by omega))
  simpa using this
theorem nf_tab {f : Nat → Bool} {m p : Nat} (hE : EP f m p) (hr : redB (tab f 0 m) (tab f m p) = true) : NF f (tab f 0 m) (tab f m p) :=
  (red_of hr).nf.congr (bitAt_tab hE)
end Go.Proofs.Ytfbkjopidjojeaa
