/-
  Plain mathematics of words, part c: how many ones; streams on streams; ahead; differences.
-/
import Derived.Test.YtfbkjopidjojeabMb
namespace Go.Proofs.Ytfbkjopidjojeab

/-- How many of the first n bits are ones. -/
def ones (f : Nat → Bool) : Nat → Nat
  | 0 => 0
  | n + 1 => ones f n + (f n).toNat

theorem ones_le (f : Nat → Bool) (n : Nat) : ones f n ≤ n := by
  induction n with
  | zero => exact Nat.le_refl _
  | succ n ih => unfold ones; cases f n <;> simp <;> omega
theorem ones_mono (f : Nat → Bool) {m n : Nat} (h : m ≤ n) : ones f m ≤ ones f n := by
  induction n with
  | zero => have : m = 0 := by omega
            subst this; exact Nat.le_refl _
  | succ n ih =>
    rcases Nat.lt_or_ge n m with g | g
    · have : m = n + 1 := by omega
      subst this; exact Nat.le_refl _
    · have := ih g; rw [ones]; omega
theorem ones_congr {f g : Nat → Bool} {n : Nat} (h : ∀ i, i < n → f i = g i) : ones f n = ones g n := by
  induction n with
  | zero => rfl
  | succ n ih => rw [ones, ones, ih (fun i hi => h i (by omega)), h n (by omega)]
theorem ones_add (f : Nat → Bool) (n m : Nat) : ones f (n + m) = ones f n + ones (fun i => f (n + i)) m := by
  induction m with
  | zero => rfl
  | succ m ih => rw [← Nat.add_assoc, ones, ih, ones]; omega
/-- One turn more is as many ones more. -/
theorem ones_turn {f : Nat → Bool} {m p : Nat} (h : EP f m p) : ∀ n, m ≤ n → ones f (n + p) = ones f n + ones (fun i => f (m + i)) p := by
  intro n hn
  obtain ⟨d, rfl⟩ : ∃ d, n = m + d := ⟨n - m, by omega⟩
  clear hn
  induction d with
  | zero => exact ones_add f m p
  | succ d ih =>
    have e : m + (d + 1) + p = (m + d + p) + 1 := by omega
    have e2 : m + (d + 1) = (m + d) + 1 := by omega
    rw [e, e2, ones, ih, h.2 (m + d) (by omega), ones]; omega
theorem ones_turns {f : Nat → Bool} {m p : Nat} (h : EP f m p) (k : Nat) : ∀ n, m ≤ n → ones f (n + k * p) = ones f n + k * ones (fun i => f (m + i)) p := by
  induction k with
  | zero => intro n _; simp
  | succ k ih =>
    intro n hn
    have e : n + (k + 1) * p = (n + k * p) + p := by rw [Nat.add_mul, Nat.one_mul]; omega
    rw [e, ones_turn h _ (by omega), ih n hn, Nat.add_mul, Nat.one_mul]; omega
theorem ones_list (l : List Bool) : ∀ k, k ≤ l.length → ones (fun i => l.getD i false) k = (l.take k).count true := by
  intro k
  induction k with
  | zero => intro _; simp [ones]
  | succ k ih =>
    intro hk
    rw [ones, ih (by omega), List.take_succ_eq_append_getElem (by omega), List.count_append, getD_lt (by omega : k < l.length)]
    cases l[k] <;> simp
theorem ones_lead (u v : List Bool) : ones (bitAt u v) u.length = u.count true := by
  have h := ones_list u u.length (Nat.le_refl _)
  rw [List.take_length] at h
  rw [← h]
  apply ones_congr
  intro i hi
  rw [bitAt_lead hi, getD_lt hi]
theorem ones_round (u v : List Bool) : ones (fun i => bitAt u v (u.length + i)) v.length = v.count true := by
  have h := ones_list v v.length (Nat.le_refl _)
  rw [List.take_length] at h
  rw [← h]
  apply ones_congr
  intro i hi
  rw [bitAt_round hi, getD_lt hi]

theorem EP_or {f g : Nat → Bool} {m m' p q : Nat} (hf : EP f m p) (hg : EP g m' q) : EP (fun n => f n || g n) (max m m') (Nat.lcm p q) := by
  refine ⟨Nat.lcm_pos hf.1 hg.1, fun n hn => ?_⟩
  obtain ⟨a, ha⟩ := Nat.dvd_lcm_left p q
  obtain ⟨b, hb⟩ := Nat.dvd_lcm_right p q
  have e1 := hf.mul a n (by omega)
  have e2 := hg.mul b n (by omega)
  rw [Nat.mul_comm] at ha hb
  rw [← ha] at e1; rw [← hb] at e2
  simp only [e1, e2]

/-- The bits of g in the places of the ones of f. -/
def onS (f g : Nat → Bool) (n : Nat) : Bool := f n && g (ones f n)

theorem EP_on_none {f g : Nat → Bool} {m p : Nat} (hf : EP f m p) (h0 : ones (fun i => f (m + i)) p = 0) : EP (onS f g) m p := by
  have hz : ∀ n, m ≤ n → f n = false := by
    intro n hn
    have e := ones_turn hf n hn
    rw [h0] at e
    have a1 := ones_mono f (show n + 1 ≤ n + p by have := hf.1; omega)
    rw [ones] at a1
    cases hfn : f n
    · rfl
    · rw [hfn] at a1; simp at a1; omega
  refine ⟨hf.1, fun n hn => ?_⟩
  unfold onS
  rw [hz n hn, hz (n + p) (by omega)]; rfl
theorem EP_on {f g : Nat → Bool} {m p a q c k t : Nat} (hf : EP f m p) (hg : EP g a q) (hc : ones (fun i => f (m + i)) p = c) (hk : a ≤ ones f m + k * c) (ht : 0 < t) (hd : q ∣ t * c) : EP (onS f g) (m + k * p) (t * p) := by
  refine ⟨Nat.mul_pos ht hf.1, fun n hn => ?_⟩
  unfold onS
  rw [hf.mul t n (by omega), ones_turns hf t n (by omega), hc]
  have h1 : a ≤ ones f n := by
    have := ones_mono f hn
    rw [ones_turns hf k m (Nat.le_refl _), hc] at this; omega
  obtain ⟨b, hb⟩ := hd
  have := hg.mul b (ones f n) h1
  rw [Nat.mul_comm q b] at hb
  rw [hb, this]
end Go.Proofs.Ytfbkjopidjojeab
