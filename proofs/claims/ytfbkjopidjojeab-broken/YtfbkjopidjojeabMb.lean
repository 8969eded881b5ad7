/-
  Plain mathematics of words, part b: words as streams of bits; normal forms; one for each stream.
-/
import Derived.Test.YtfbkjopidjojeabMa
namespace Go.Proofs.Ytfbkjopidjojeab

/-- Bit n of the word u(v). -/
def bitAt (u v : List Bool) (n : Nat) : Bool := if n < u.length then u.getD n false else v.getD ((n - u.length) % v.length) false

theorem getD_lt {l : List Bool} {i : Nat} (h : i < l.length) : l.getD i false = l[i] := by simp [h]

/-- From m on the stream repeats after p. -/
def EP (f : Nat → Bool) (m p : Nat) : Prop := 0 < p ∧ ∀ n, m ≤ n → f (n + p) = f n

theorem EP_bitAt (u v : List Bool) (hv : v ≠ []) : EP (bitAt u v) u.length v.length := by
  refine ⟨List.length_pos_iff.2 hv, fun n hn => ?_⟩
  unfold bitAt
  rw [if_neg (by omega), if_neg (by omega)]
  have : n + v.length - u.length = (n - u.length) + v.length := by omega
  rw [this, Nat.add_mod_right]

theorem EP.mono {f : Nat → Bool} {m m' p : Nat} (h : EP f m p) (hm : m ≤ m') : EP f m' p := ⟨h.1, fun n hn => h.2 n (by omega)⟩

theorem EP.mul {f : Nat → Bool} {m p : Nat} (h : EP f m p) (k : Nat) : ∀ n, m ≤ n → f (n + k * p) = f n := by
  induction k with
  | zero => intro n _; simp
  | succ k ih =>
    intro n hn
    have : n + (k + 1) * p = (n + k * p) + p := by rw [Nat.add_mul, Nat.one_mul]; omega
    rw [this, h.2 _ (by omega), ih n hn]

theorem EP.sub {f : Nat → Bool} {m p q : Nat} (hp : EP f m p) (hq : EP f m q) (hlt : p < q) : EP f m (q - p) := by
  refine ⟨by omega, fun n hn => ?_⟩
  have e1 := hq.2 n hn
  have e2 := hp.2 (n + (q - p)) (by omega)
  have : n + (q - p) + p = n + q := by omega
  rw [this] at e2
  rw [← e2, e1]

theorem EP.gcd {f : Nat → Bool} {m : Nat} : ∀ (s p q : Nat), p + q ≤ s → EP f m p → EP f m q → EP f m (Nat.gcd p q) := by
  intro s
  induction s with
  | zero => intro p q h hp _; have := hp.1; omega
  | succ s ih =>
    intro p q h hp hq
    rcases Nat.lt_trichotomy p q with hlt | heq | hgt
    · have := ih p (q - p) (by have := hp.1; omega) hp (hp.sub hq hlt)
      have e : Nat.gcd p q = Nat.gcd p (q - p) := by
        have : q = (q - p) + p := by omega
        conv => lhs; rw [this]
        rw [Nat.gcd_add_self_right]
      rw [e]; exact this
    · subst heq; rw [Nat.gcd_self]; exact hp
    · have := ih (p - q) q (by have := hq.1; omega) (hq.sub hp hgt) hq
      have e : Nat.gcd p q = Nat.gcd (p - q) q := by
        have : p = (p - q) + q := by omega
        conv => lhs; rw [this]
        rw [Nat.gcd_add_self_left]
      rw [e]; exact this

/-- A period that holds at last holds from where another one holds. -/
theorem EP.from {f : Nat → Bool} {m m' p q : Nat} (hp : EP f m p) (hq : EP f m' q) : EP f m q := by
  refine ⟨hq.1, fun n hn => ?_⟩
  have e1 := hp.mul m' (n + q) (by omega)
  have e2 := hp.mul m' n hn
  have h0 : m' ≤ m' * p := Nat.le_mul_of_pos_right _ hp.1
  have e3 := hq.2 (n + m' * p) (by omega)
  have : n + q + m' * p = n + m' * p + q := by omega
  rw [this] at e1
  rw [← e1, e3, e2]

/-- The normal form of a stream: the shortest second part, then the shortest first part. -/
structure NF (f : Nat → Bool) (u v : List Bool) : Prop where
  ne : v ≠ []
  bits : ∀ n, bitAt u v n = f n
  per : ∀ m p, EP f m p → v.length ≤ p
  pre : ∀ m, EP f m v.length → u.length ≤ m

theorem NF.ep {f : Nat → Bool} {u v : List Bool} (h : NF f u v) : EP f u.length v.length := by
  have e : bitAt u v = f := funext h.bits
  rw [← e]; exact EP_bitAt u v h.ne

theorem bitAt_lead {u v : List Bool} {n : Nat} (h : n < u.length) : bitAt u v n = u[n] := by
  unfold bitAt; rw [if_pos h]; simp [h]
theorem bitAt_round {u v : List Bool} {n : Nat} (h : n < v.length) : bitAt u v (u.length + n) = v[n] := by
  unfold bitAt; rw [if_neg (by omega)]
  have : u.length + n - u.length = n := by omega
  rw [this, Nat.mod_eq_of_lt h]; simp [h]

theorem parts_eq {u v u' v' : List Bool} (hu : u.length = u'.length) (hv : v.length = v'.length) (h : ∀ n, bitAt u v n = bitAt u' v' n) : u = u' ∧ v = v' := by
  constructor
  · apply List.ext_getElem hu
    intro n h1 h2
    have := h n
    rw [bitAt_lead h1, bitAt_lead h2] at this; exact this
  · apply List.ext_getElem hv
    intro n h1 h2
    have := h (u.length + n)
    rw [bitAt_round h1, hu, bitAt_round h2] at this; exact this

theorem NF.unique {f : Nat → Bool} {u v u' v' : List Bool} (h : NF f u v) (h' : NF f u' v') : u = u' ∧ v = v' := by
  have hv : v.length = v'.length := by
    have a := h.per _ _ h'.ep
    have b := h'.per _ _ h.ep
    omega
  have hu : u.length = u'.length := by
    have a := h.pre u'.length (by rw [hv]; exact h'.ep)
    have b := h'.pre u.length (by rw [← hv]; exact h.ep)
    omega
  exact parts_eq hu hv fun n => by rw [h.bits, h'.bits]

theorem NF.congr {f g : Nat → Bool} {u v : List Bool} (h : NF f u v) (e : ∀ n, f n = g n) : NF g u v := by
  have : f = g := funext e
  rw [← this]; exact h

/-- A list is its first p members again and again. -/
def Per (l : List Bool) (p : Nat) : Prop := ∀ i, i + p < l.length → l.getD (i + p) false = l.getD i false

theorem Per.mul {l : List Bool} {p : Nat} (h : Per l p) (t : Nat) : ∀ i, i + t * p < l.length → l.getD (i + t * p) false = l.getD i false := by
  induction t with
  | zero => intro i _; simp
  | succ t ih =>
    intro i hi
    have e : i + (t + 1) * p = (i + t * p) + p := by rw [Nat.add_mul, Nat.one_mul]; omega
    rw [e] at hi ⊢
    rw [h _ hi, ih i (by omega)]

theorem EP_of_Per {u v : List Bool} {p : Nat} (hp : 0 < p) (hd : p ∣ v.length) (hv : v ≠ []) (h : Per v p) : EP (bitAt u v) u.length p := by
  refine ⟨hp, fun n hn => ?_⟩
  have hL : 0 < v.length := List.length_pos_iff.2 hv
  unfold bitAt
  rw [if_neg (by omega), if_neg (by omega)]
  have e : n + p - u.length = (n - u.length) + p := by omega
  rw [e]
  generalize n - u.length = k
  obtain ⟨c, hc⟩ := hd
  have hj : k % v.length < v.length := Nat.mod_lt _ hL
  have hle : p ≤ v.length := Nat.le_of_dvd hL ⟨c, hc⟩
  have e2 : (k + p) % v.length = (k % v.length + p) % v.length := by rw [Nat.mod_add_mod]
  rw [e2]
  generalize k % v.length = j at hj
  rcases Nat.lt_or_ge (j + p) v.length with g | g
  · rw [Nat.mod_eq_of_lt g]; exact h j g
  · have e3 : (j + p) % v.length = j + p - v.length := by
      rw [Nat.mod_eq_sub_mod g, Nat.mod_eq_of_lt (by omega)]
    rw [e3]
    have hc0 : 0 < c := by
      rcases Nat.eq_zero_or_pos c with z | z
      · rw [z] at hc; omega
      · exact z
    have hc1 : v.length = (c - 1) * p + p := by
      rw [hc]
      have : c = (c - 1) + 1 := by omega
      conv => lhs; rw [this]
      rw [Nat.mul_add, Nat.mul_one, Nat.mul_comm p (c - 1)]
    have e4 : j = (j + p - v.length) + (c - 1) * p := by omega
    have := h.mul (c - 1) (j + p - v.length) (by omega)
    rw [← e4] at this
    exact this.symm

theorem Per_of_EP {u v : List Bool} {p : Nat} (h : EP (bitAt u v) u.length p) : Per v p := by
  intro i hi
  have e := h.2 (u.length + i) (by omega)
  have a1 : u.length + i + p = u.length + (i + p) := by omega
  rw [a1, bitAt_round hi, bitAt_round (by omega : i < v.length)] at e
  rw [getD_lt hi, getD_lt (by omega : i < v.length), e]

/-- The word with its shortest parts, as a program sees it. -/
structure Red (u v : List Bool) : Prop where
  ne : v ≠ []
  per : ∀ p, 0 < p → p < v.length → p ∣ v.length → ¬ Per v p
  last : ∀ k, k + 1 = u.length → u.getD k false ≠ v.getD (v.length - 1) false

theorem Red.nf {u v : List Bool} (h : Red u v) : NF (bitAt u v) u v := by
  have h0 := EP_bitAt u v h.ne
  refine ⟨h.ne, fun _ => rfl, fun m p hp => ?_, fun m hm => ?_⟩
  · have h1 : EP (bitAt u v) u.length p := h0.from hp
    have h2 := EP.gcd _ p v.length (Nat.le_refl _) h1 h0
    rcases Nat.lt_or_ge (Nat.gcd p v.length) v.length with g | g
    · exact absurd (Per_of_EP h2) (h.per _ h2.1 g (Nat.gcd_dvd_right _ _))
    · exact Nat.le_trans g (Nat.le_of_dvd hp.1 (Nat.gcd_dvd_left _ _))
  · rcases Nat.lt_or_ge m u.length with g | g
    · exfalso
      have e := hm.2 (u.length - 1) (by omega)
      have hL : 0 < v.length := List.length_pos_iff.2 h.ne
      apply h.last (u.length - 1) (by omega)
      have a1 : u.length - 1 + v.length = u.length + (v.length - 1) := by omega
      rw [a1, bitAt_round (by omega : v.length - 1 < v.length), bitAt_lead (by omega : u.length - 1 < u.length)] at e
      rw [getD_lt (by omega : u.length - 1 < u.length), getD_lt (by omega : v.length - 1 < v.length), e]
    · exact g

/-- k bits of a stream from a on. -/
def tab (f : Nat → Bool) (a k : Nat) : List Bool := (List.range k).map fun i => f (a + i)
theorem tab_length (f : Nat → Bool) (a k : Nat) : (tab f a k).length = k := by simp [tab]
theorem tab_getD (f : Nat → Bool) (a k i : Nat) (h : i < k) : (tab f a k).getD i false = f (a + i) := by
  rw [getD_lt (by rw [tab_length]; exact h)]; simp [tab]

theorem bitAt_tab {f : Nat → Bool} {m p : Nat} (h : EP f m p) : ∀ n, bitAt (tab f 0 m) (tab f m p) n = f n := by
  intro n
  unfold bitAt
  rw [tab_length, tab_length]
  by_cases hn : n < m
  · rw [if_pos hn, tab_getD _ _ _ _ hn, Nat.zero_add]
  · rw [if_neg hn, tab_getD _ _ _ _ (Nat.mod_lt _ h.1)]
    have := h.mul ((n - m) / p) (m + (n - m) % p) (by omega)
    have e : m + (n - m) % p + (n - m) / p * p = n := by
      have := Nat.mod_add_div (n - m) p
      rw [Nat.mul_comm] at this; omega
    rw [e] at this; exact this.symm

/-- Two streams that repeat are the same if they are so far enough. -/
theorem eq_of_EP {f g : Nat → Bool} {m p q : Nat} (hf : EP f m p) (hg : EP g m q) (h : ∀ n, n < m + p * q → f n = g n) : ∀ n, f n = g n := by
  intro n
  by_cases hn : n < m + p * q
  · exact h n hn
  · have hpq : 0 < p * q := Nat.mul_pos hf.1 hg.1
    have a := hf.mul (q * ((n - m) / (p * q))) (m + (n - m) % (p * q)) (by omega)
    have b := hg.mul (p * ((n - m) / (p * q))) (m + (n - m) % (p * q)) (by omega)
    have e : m + (n - m) % (p * q) + (p * q) * ((n - m) / (p * q)) = n := by
      have := Nat.mod_add_div (n - m) (p * q); omega
    have e1 : q * ((n - m) / (p * q)) * p = (p * q) * ((n - m) / (p * q)) := by
      rw [Nat.mul_comm, ← Nat.mul_assoc]
    have e2 : p * ((n - m) / (p * q)) * q = (p * q) * ((n - m) / (p * q)) := by
      rw [Nat.mul_comm, ← Nat.mul_assoc, Nat.mul_comm q p]
    rw [e1, e] at a; rw [e2, e] at b
    rw [a, b]
    exact h _ (by have := Nat.mod_lt (n - m) hpq; omega)
end Go.Proofs.Ytfbkjopidjojeab
