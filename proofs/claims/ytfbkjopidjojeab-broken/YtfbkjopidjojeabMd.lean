/-
  Plain mathematics of words, part d: differences of counts: ahead, adapts, size.
-/
import Derived.Test.YtfbkjopidjojeabMc
namespace Go.Proofs.Ytfbkjopidjojeab

/-- The ones of f among the first n bits less those of g. -/
def dif (f g : Nat → Bool) (n : Nat) : Int := (ones f n : Int) - (ones g n : Int)
/-- The least difference up to n. -/
def mn (f g : Nat → Bool) : Nat → Int
  | 0 => 0
  | n + 1 => min (mn f g n) (dif f g (n + 1))
/-- The greatest difference up to n. -/
def mx (f g : Nat → Bool) : Nat → Int
  | 0 => 0
  | n + 1 => max (mx f g n) (dif f g (n + 1))

theorem dif_zero (f g : Nat → Bool) : dif f g 0 = 0 := rfl
theorem dif_succ (f g : Nat → Bool) (n : Nat) : dif f g (n + 1) = dif f g n + (f n).toNat - (g n).toNat := by
  unfold dif; rw [ones, ones]; omega
theorem dif_bd (f g : Nat → Bool) (n : Nat) : -(n : Int) ≤ dif f g n ∧ dif f g n ≤ n := by
  unfold dif; have := ones_le f n; have := ones_le g n; omega
theorem mn_le (f g : Nat → Bool) (n : Nat) : ∀ i, i ≤ n → mn f g n ≤ dif f g i := by
  induction n with
  | zero => intro i hi; have : i = 0 := by omega
            subst this; exact Int.le_refl _
  | succ n ih =>
    intro i hi
    rw [mn]
    rcases Nat.lt_or_ge n i with h | h
    · have : i = n + 1 := by omega
      subst this; omega
    · have := ih i h; omega
theorem mn_at (f g : Nat → Bool) (n : Nat) : ∃ i, i ≤ n ∧ mn f g n = dif f g i := by
  induction n with
  | zero => exact ⟨0, Nat.le_refl _, rfl⟩
  | succ n ih =>
    obtain ⟨i, hi, e⟩ := ih
    rw [mn]
    rcases Int.lt_or_le (dif f g (n + 1)) (mn f g n) with h | h
    · exact ⟨n + 1, Nat.le_refl _, by omega⟩
    · exact ⟨i, by omega, by omega⟩
theorem le_mx (f g : Nat → Bool) (n : Nat) : ∀ i, i ≤ n → dif f g i ≤ mx f g n := by
  induction n with
  | zero => intro i hi; have : i = 0 := by omega
            subst this; exact Int.le_refl _
  | succ n ih =>
    intro i hi
    rw [mx]
    rcases Nat.lt_or_ge n i with h | h
    · have : i = n + 1 := by omega
      subst this; omega
    · have := ih i h; omega
theorem mx_at (f g : Nat → Bool) (n : Nat) : ∃ i, i ≤ n ∧ mx f g n = dif f g i := by
  induction n with
  | zero => exact ⟨0, Nat.le_refl _, rfl⟩
  | succ n ih =>
    obtain ⟨i, hi, e⟩ := ih
    rw [mx]
    rcases Int.lt_or_le (mx f g n) (dif f g (n + 1)) with h | h
    · exact ⟨n + 1, Nat.le_refl _, by omega⟩
    · exact ⟨i, by omega, by omega⟩

section
variable {D : Nat → Int} {M P : Nat} {δ : Int}
theorem D_mul (hD : ∀ n, M ≤ n → D (n + P) = D n + δ) (k : Nat) : ∀ n, M ≤ n → D (n + k * P) = D n + k * δ := by
  induction k with
  | zero => intro n _; simp
  | succ k ih =>
    intro n hn
    have e : n + (k + 1) * P = (n + k * P) + P := by rw [Nat.add_mul, Nat.one_mul]; omega
    have e2 : ((k + 1 : Nat) : Int) * δ = k * δ + δ := by rw [Int.natCast_add, Int.add_mul]; simp
    rw [e, hD _ (by omega), ih n hn, e2]; omega
theorem D_split (hP : 0 < P) (n : Nat) (h : M ≤ n) : ∃ i k, M ≤ i ∧ i < M + P ∧ n = i + k * P := by
  refine ⟨M + (n - M) % P, (n - M) / P, by omega, by have := Nat.mod_lt (n - M) hP; omega, ?_⟩
  have := Nat.mod_add_div (n - M) P
  rw [Nat.mul_comm] at this; omega
theorem D_nonneg (hP : 0 < P) (hD : ∀ n, M ≤ n → D (n + P) = D n + δ) (hδ : 0 ≤ δ) (h : ∀ n, n ≤ M + P → 0 ≤ D n) : ∀ n, 0 ≤ D n := by
  intro n
  rcases Nat.lt_or_ge n M with g | g
  · exact h n (by omega)
  · obtain ⟨i, k, h1, h2, rfl⟩ := D_split hP n g
    rw [D_mul hD k i h1]
    have := h i (by omega)
    have : 0 ≤ (k : Int) * δ := Int.mul_nonneg (by omega) hδ
    omega
theorem D_le (hP : 0 < P) (hD : ∀ n, M ≤ n → D (n + P) = D n + δ) (hδ : δ = 0) {B : Int} (h : ∀ n, n ≤ M + P → D n ≤ B) : ∀ n, D n ≤ B := by
  intro n
  rcases Nat.lt_or_ge n M with g | g
  · exact h n (by omega)
  · obtain ⟨i, k, h1, h2, rfl⟩ := D_split hP n g
    rw [D_mul hD k i h1, hδ, Int.mul_zero]
    have := h i (by omega)
    omega
theorem D_up (hD : ∀ n, M ≤ n → D (n + P) = D n + δ) (h : ∀ n, 0 ≤ D n) : 0 ≤ δ := by
  rcases Int.lt_or_le δ 0 with g | g
  · exfalso
    have h1 := h (M + ((D M).toNat + 1) * P)
    rw [D_mul hD _ M (Nat.le_refl _)] at h1
    have h0 := h M
    have : (((D M).toNat + 1 : Nat) : Int) * δ ≤ (((D M).toNat + 1 : Nat) : Int) * (-1) := Int.mul_le_mul_of_nonneg_left (by omega) (by omega)
    omega
  · exact g
theorem D_down (hD : ∀ n, M ≤ n → D (n + P) = D n + δ) {B : Int} (h0 : ∀ n, 0 ≤ D n) (h : ∀ n, D n ≤ B) : δ ≤ 0 := by
  rcases Int.lt_or_le 0 δ with g | g
  · exfalso
    have h1 := h (M + (B.toNat + 1) * P)
    rw [D_mul hD _ M (Nat.le_refl _)] at h1
    have := h0 M
    have : ((B.toNat + 1 : Nat) : Int) * 1 ≤ ((B.toNat + 1 : Nat) : Int) * δ := Int.mul_le_mul_of_nonneg_left (by omega) (by omega)
    omega
  · exact g
end

/-- The drift of two words: above 0 if the rate of the first is the greater one. -/
def dri (v y : List Bool) : Int := (v.count true : Int) * (y.length : Int) - (y.count true : Int) * (v.length : Int)

/-- One common turn. -/
theorem dif_turn {u v x y : List Bool} (hv0 : v ≠ []) (hy0 : y ≠ []) {P : Nat} (h1 : v.length ∣ P) (h2 : y.length ∣ P) (hP : 0 < P) :
    ∃ δ : Int, (∀ n, max u.length x.length ≤ n → dif (bitAt u v) (bitAt x y) (n + P) = dif (bitAt u v) (bitAt x y) n + δ) ∧ (0 ≤ dri v y ↔ 0 ≤ δ) ∧ (dri v y = 0 ↔ δ = 0) := by
  obtain ⟨a, ha⟩ := h1
  obtain ⟨b, hb⟩ := h2
  rw [Nat.mul_comm] at ha hb
  have hv1 : 0 < v.length := List.length_pos_iff.2 hv0
  have hy1 : 0 < y.length := List.length_pos_iff.2 hy0
  refine ⟨(a : Int) * (v.count true : Int) - (b : Int) * (y.count true : Int), ?_, ?_⟩
  · intro n hn
    have e1 := ones_turns (EP_bitAt u v hv0) a n (by omega)
    have e2 := ones_turns (EP_bitAt x y hy0) b n (by omega)
    rw [← ha, ones_round] at e1
    rw [← hb, ones_round] at e2
    unfold dif
    rw [e1, e2, Int.natCast_add, Int.natCast_add, Int.natCast_mul, Int.natCast_mul]; omega
  · have key : ((a : Int) * (v.count true : Int) - (b : Int) * (y.count true : Int)) * ((v.length : Int) * (y.length : Int)) = (P : Int) * dri v y := by
      have ha' : (P : Int) = (a : Int) * (v.length : Int) := by rw [ha, Int.natCast_mul]
      have hb' : (P : Int) = (b : Int) * (y.length : Int) := by rw [hb, Int.natCast_mul]
      unfold dri
      rw [Int.sub_mul, Int.mul_sub]
      congr 1
      · rw [ha']; ac_rfl
      · rw [hb']; ac_rfl
    have hK : 0 < (v.length : Int) * (y.length : Int) := Int.mul_pos (by omega) (by omega)
    have hPp : 0 < (P : Int) := by omega
    generalize (a : Int) * (v.count true : Int) - (b : Int) * (y.count true : Int) = δ at key
    generalize (v.length : Int) * (y.length : Int) = K at key hK
    generalize dri v y = d at key
    constructor
    · constructor
      · intro h
        rcases Int.lt_or_le δ 0 with g | g
        · exfalso
          have h3 : 0 ≤ (P : Int) * d := Int.mul_nonneg (by omega) h
          have h4 : δ * K < 0 := Int.mul_neg_of_neg_of_pos g hK
          omega
        · exact g
      · intro h
        rcases Int.lt_or_le d 0 with g | g
        · exfalso
          have h3 : 0 ≤ δ * K := Int.mul_nonneg h (by omega)
          have h4 : (P : Int) * d < 0 := Int.mul_neg_of_pos_of_neg hPp g
          omega
        · exact g
    · constructor
      · intro h
        rw [h, Int.mul_zero] at key
        rcases Int.mul_eq_zero.1 key with g | g
        · exact g
        · omega
      · intro h
        rw [h, Int.zero_mul] at key
        rcases Int.mul_eq_zero.1 key.symm with g | g
        · omega
        · exact g

/-- f is never behind g. -/
def AheadS (f g : Nat → Bool) : Prop := ∀ n, 0 ≤ dif f g n
/-- f adapts to g. -/
def AdaptsS (f g : Nat → Bool) : Prop := AheadS f g ∧ ∃ B, ∀ n, dif f g n ≤ B
/-- s is the greatest difference. -/
def Most (f g : Nat → Bool) (s : Int) : Prop := (∀ n, dif f g n ≤ s) ∧ ∃ n, dif f g n = s

theorem ahead_iff {u v x y : List Bool} (hv0 : v ≠ []) (hy0 : y ≠ []) {P : Nat} (h1 : v.length ∣ P) (h2 : y.length ∣ P) (hP : 0 < P) :
    (0 ≤ dri v y ∧ 0 ≤ mn (bitAt u v) (bitAt x y) (max u.length x.length + P)) ↔ AheadS (bitAt u v) (bitAt x y) := by
  obtain ⟨δ, hD, hs, _⟩ := dif_turn (u := u) (x := x) hv0 hy0 h1 h2 hP
  constructor
  · rintro ⟨ha, hm⟩
    exact D_nonneg hP hD (hs.1 ha) fun n hn => by have := mn_le (bitAt u v) (bitAt x y) _ n hn; omega
  · intro h
    refine ⟨hs.2 (D_up hD h), ?_⟩
    obtain ⟨i, _, e⟩ := mn_at (bitAt u v) (bitAt x y) (max u.length x.length + P)
    rw [e]; exact h i
theorem adapts_iff {u v x y : List Bool} (hv0 : v ≠ []) (hy0 : y ≠ []) {P : Nat} (h1 : v.length ∣ P) (h2 : y.length ∣ P) (hP : 0 < P) :
    (dri v y = 0 ∧ 0 ≤ mn (bitAt u v) (bitAt x y) (max u.length x.length + P)) ↔ AdaptsS (bitAt u v) (bitAt x y) := by
  obtain ⟨δ, hD, hs, hz⟩ := dif_turn (u := u) (x := x) hv0 hy0 h1 h2 hP
  constructor
  · rintro ⟨ha, hm⟩
    refine ⟨(ahead_iff hv0 hy0 h1 h2 hP).1 ⟨by omega, hm⟩, mx (bitAt u v) (bitAt x y) (max u.length x.length + P), ?_⟩
    exact D_le hP hD (hz.1 ha) fun n hn => le_mx _ _ _ n hn
  · rintro ⟨ha, B, hB⟩
    have h3 := D_up hD ha
    have h4 := D_down hD ha hB
    exact ⟨hz.2 (by omega), ((ahead_iff hv0 hy0 h1 h2 hP).2 ha).2⟩
theorem most_of {u v x y : List Bool} (hv0 : v ≠ []) (hy0 : y ≠ []) {P : Nat} (h1 : v.length ∣ P) (h2 : y.length ∣ P) (hP : 0 < P) (h : AdaptsS (bitAt u v) (bitAt x y)) :
    Most (bitAt u v) (bitAt x y) (mx (bitAt u v) (bitAt x y) (max u.length x.length + P)) := by
  obtain ⟨δ, hD, hs, hz⟩ := dif_turn (u := u) (x := x) hv0 hy0 h1 h2 hP
  obtain ⟨i, _, e⟩ := mx_at (bitAt u v) (bitAt x y) (max u.length x.length + P)
  exact ⟨D_le hP hD (hz.1 ((adapts_iff hv0 hy0 h1 h2 hP).2 h).1) fun n hn => le_mx _ _ _ n hn, i, e.symm⟩
theorem Most.unique {f g : Nat → Bool} {s t : Int} (h : Most f g s) (k : Most f g t) : s = t := by
  obtain ⟨i, e⟩ := h.2
  obtain ⟨j, e'⟩ := k.2
  have := h.1 j; have := k.1 i; omega
end Go.Proofs.Ytfbkjopidjojeab
