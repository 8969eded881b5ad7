/-
  Joined: Ma Wa Mb Wb Wc Wd We Wf Mc Wg Wh Md Wi Me Wj.
-/
import Derived.WalkKit
import Derived.Test.YtfbkjopidjojeabRows
import Derived.WalkSpells
import Derived.WalkLawsBesides
import Derived.Deep.QuietTactic
import Derived.BigQuiet
import Derived.Deep.RegionWith
import Derived.Deep.RegionHeld3
namespace Go.Proofs.Ytfbkjopidjojeab
open Go.RowKit

/-- A bit as a byte. -/
def bb (x : Bool) : UInt8 := if x then 49 else 48
/-- Bits as a string. -/
def bs (l : List Bool) : ByteArray := ⟨(l.map bb).toArray⟩

theorem bs_toList (l : List Bool) : (bs l).data.toList = l.map bb := by simp [bs]
theorem bs_size (l : List Bool) : (bs l).size = l.length := by
  show (l.map bb).toArray.size = l.length
  simp
theorem bb_inj {a b : Bool} (h : bb a = bb b) : a = b := by
  revert h; cases a <;> cases b <;> decide
theorem bs_inj {a b : List Bool} (h : bs a = bs b) : a = b := by
  have e : a.map bb = b.map bb := by rw [← bs_toList, ← bs_toList, h]
  exact (List.map_inj_right (fun _ _ h => bb_inj h)).1 e
theorem bs_get (l : List Bool) (k : Nat) (h : k < (bs l).size) : (bs l)[k] = bb (l[k]'(by rw [bs_size] at h; exact h)) := by
  have e : (bs l)[k] = (bs l).data[k]'h := rfl
  rw [e]
  simp only [bs, List.getElem_toArray, List.getElem_map]
theorem bb_toNat (x : Bool) : ((bb x).toNat : Int) = if x then 49 else 48 := by cases x <;> decide
theorem bb_49 (x : Bool) : (((bb x).toNat : Int) == 49) = x := by cases x <;> decide

/-- How many bytes of a string are the digit one. -/
def cn (l : List UInt8) : Int := ((l.countP fun c => c.toNat == 49 : Nat) : Int)
theorem cn_le (l : List UInt8) : 0 ≤ cn l ∧ cn l ≤ l.length := by
  unfold cn; exact ⟨by omega, by have := List.countP_le_length (p := fun c : UInt8 => c.toNat == 49) (l := l); omega⟩
theorem take_snoc (s : ByteArray) (k : Nat) (h : k < s.size) : s.data.toList.take (k + 1) = s.data.toList.take k ++ [s[k]] := by
  rw [List.take_succ_eq_append_getElem (by simpa using h)]; rfl
theorem get_toList (s : ByteArray) (k : Nat) (h : k < s.size) : s.data.toList[k]'(by simpa using h) = s[k] := by
  rw [Array.getElem_toList]; rfl
theorem cn_snoc (l : List UInt8) (c : UInt8) : cn (l ++ [c]) = cn l + if c.toNat = 49 then 1 else 0 := by
  unfold cn
  rw [List.countP_append]
  by_cases h : c.toNat = 49
  · rw [if_pos h]; simp [h]
  · rw [if_neg h]; simp [h]
theorem cn_yes {s : ByteArray} {k : Nat} (h : k < s.size) (h1 : ((s[k].toNat : Int) == 49) = true) : cn (s.data.toList.take (k + 1)) = cn (s.data.toList.take k) + 1 := by
  rw [take_snoc s k h, cn_snoc, if_pos (by have := of_decide_eq_true h1; omega : s[k].toNat = 49)]
theorem cn_no {s : ByteArray} {k : Nat} (h : k < s.size) (h1 : ((s[k].toNat : Int) == 49) = false) : cn (s.data.toList.take (k + 1)) = cn (s.data.toList.take k) := by
  have h2 : ¬ s[k].toNat = 49 := by intro e; rw [e] at h1; simp at h1
  rw [take_snoc s k h, cn_snoc, if_neg h2]; omega
theorem cn_bs (l : List Bool) : cn (bs l).data.toList = (l.count true : Nat) := by
  rw [bs_toList]; unfold cn
  rw [List.countP_map, List.count]
  congr 1
  apply List.countP_congr
  intro x _
  cases x <;> simp [bb]

/-- Where the first opening bracket stands; the length, if there is none. -/
def foN (l : List UInt8) : Nat := l.findIdx fun c => c.toNat == 40
/-- The same, or -1. -/
def fo (l : List UInt8) : Int := if foN l < l.length then (foN l : Int) else -1
theorem foN_le (l : List UInt8) : foN l ≤ l.length := List.findIdx_le_length
theorem fo_hit {s : ByteArray} {k : Nat} (h : k < s.size) (hk : k ≤ foN s.data.toList) (h1 : ((s[k].toNat : Int) == 40) = true) : fo s.data.toList = k := by
  have hl : k < s.data.toList.length := by simpa using h
  have e : foN s.data.toList = k := by
    rcases Nat.lt_or_ge k (foN s.data.toList) with g | g
    · exfalso
      have t := List.not_of_lt_findIdx g
      rw [get_toList s k h] at t
      have h2 : (s[k].toNat : Int) = 40 := of_decide_eq_true h1
      have h3 : s[k].toNat = 40 := by omega
      rw [h3] at t; simp at t
    · omega
  unfold fo; rw [e, if_pos hl]
theorem fo_miss {s : ByteArray} {k : Nat} (h : k < s.size) (hk : k ≤ foN s.data.toList) (h1 : ((s[k].toNat : Int) == 40) = false) : k + 1 ≤ foN s.data.toList := by
  have hl : k < s.data.toList.length := by simpa using h
  rcases Nat.lt_or_ge k (foN s.data.toList) with g | g
  · omega
  · exfalso
    have e : foN s.data.toList = k := by omega
    have hlt : s.data.toList.findIdx (fun c => c.toNat == 40) < s.data.toList.length := by
      show foN s.data.toList < _; rw [e]; exact hl
    have t := List.findIdx_getElem (w := hlt)
    have e2 : s.data.toList[s.data.toList.findIdx (fun c => c.toNat == 40)] = s[k] := by
      have : s.data.toList.findIdx (fun c => c.toNat == 40) = k := e
      simp only [this]; exact get_toList s k h
    rw [e2] at t
    simp at t; rw [t] at h1; simp at h1
theorem fo_end {s : ByteArray} {k : Nat} (h : ¬ k < s.size) (hk : k ≤ foN s.data.toList) : fo s.data.toList = -1 := by
  unfold fo; rw [if_neg]; have : s.data.toList.length = s.size := by simp
  omega

/-- All bytes are digits of bits. -/
def allBits (l : List UInt8) : Bool := l.all fun c => c.toNat == 48 || c.toNat == 49
theorem allBits_snoc (s : ByteArray) (k : Nat) (h : k < s.size) : allBits (s.data.toList.take (k + 1)) = (allBits (s.data.toList.take k) && (s[k].toNat == 48 || s[k].toNat == 49)) := by
  rw [take_snoc s k h]; simp [allBits]
theorem allBits_take {l : List UInt8} (k : Nat) (h : allBits l = true) : allBits (l.take k) = true := by
  unfold allBits at *; rw [List.all_eq_true] at *; intro x hx; exact h x (List.mem_of_mem_take hx)
theorem allBits_bad {s : ByteArray} {k : Nat} (h : k < s.size) (h1 : ((s[k].toNat : Int) != 48) = true) (h2 : ((s[k].toNat : Int) != 49) = true) : allBits s.data.toList = false := by
  rcases hb : allBits s.data.toList with _ | _
  · rfl
  · have := allBits_take (k + 1) hb
    rw [allBits_snoc s k h] at this
    simp at this h1 h2; omega
theorem allBits_48 {s : ByteArray} {k : Nat} (h : k < s.size) (hf : allBits (s.data.toList.take k) = true) (h1 : (s[k].toNat : Int) = 48) : allBits (s.data.toList.take (k + 1)) = true := by
  have : s[k].toNat = 48 := by omega
  rw [allBits_snoc s k h, hf, this]; rfl
theorem allBits_49 {s : ByteArray} {k : Nat} (h : k < s.size) (hf : allBits (s.data.toList.take k) = true) (h0 : ¬ (s[k].toNat : Int) = 48) (h1 : ((s[k].toNat : Int) != 48) = false ∨ ((s[k].toNat : Int) != 49) = false) : allBits (s.data.toList.take (k + 1)) = true := by
  have : s[k].toNat = 49 := by
    rcases h1 with h1 | h1
    · simp at h1; omega
    · simp at h1; omega
  rw [allBits_snoc s k h, hf, this]; rfl
/-- Is it a part of a word? -/
def isP (l : List UInt8) : Bool := decide (l.length ≤ 12) && allBits l

theorem lcm_step {a b j : Nat} (ha : 0 < a) (hle : a * j ≤ Nat.lcm a b) (h : ¬ (a * j) % b = 0) : a * (j + 1) ≤ Nat.lcm a b := by
  obtain ⟨m, hm⟩ := Nat.dvd_lcm_left a b
  rw [hm] at hle ⊢
  have hne : j ≠ m := by
    intro e; subst e
    apply h; rw [← hm]; exact Nat.mod_eq_zero_of_dvd (Nat.dvd_lcm_right a b)
  have hjm : j ≤ m := Nat.le_of_mul_le_mul_left hle ha
  exact Nat.mul_le_mul_left a (by omega)
theorem lcm_done {a b j : Nat} (ha : 0 < a) (hj : 0 < j) (hle : a * j ≤ Nat.lcm a b) (h : (a * j) % b = 0) : a * j = Nat.lcm a b := by
  have hd : Nat.lcm a b ∣ a * j := Nat.lcm_dvd (Nat.dvd_mul_right a j) (Nat.dvd_of_mod_eq_zero h)
  have := Nat.le_of_dvd (Nat.mul_pos ha hj) hd
  omega
theorem lcm_le_mul (a b : Nat) : Nat.lcm a b ≤ a * b := by
  unfold Nat.lcm; exact Nat.div_le_self _ _
end Go.Proofs.Ytfbkjopidjojeab

namespace Go.Proofs.Ytfbkjopidjojeab
open Go.RowKit

theorem ret_int {k : IntKind} {a b : Int} (h : a = b) : Ending.returned (.int k a) = .returned (.int k b) := by rw [h]

set_option maxRecDepth 50000 in
set_option maxHeartbeats 400000 in
theorem count_any (s : ByteArray) (w : World) (hs : s.size ≤ maxLen) :
    Calls Try.prog 90 #[.string s] w fun e w' => e = .returned (.int .i64 (cn s.data.toList)) ∧ w' = w := by
  unfold maxLen at hs
  go_enter Try.func90, Try.ntmps90
  go_wp2
  go_loop [3, 4] (fun n i => ∃ k : Nat, k ≤ s.size ∧ i = .int .i64 k ∧ n = .int .i64 (cn (s.data.toList.take k))) (fun _ i => s.size - (intOf i).toNat)
  case atStart => exact ⟨0, Nat.zero_le _, rfl, rfl⟩
  case round =>
    obtain ⟨k, hk, rfl, rfl⟩ := hrel
    have hd := cn_le (s.data.toList.take k)
    have hl : (s.data.toList.take k).length ≤ k := List.length_take_le _ _
    by_cases hlt : k < s.size
    · go_wp2
      all_goals
        go_round
        case rel => exact ⟨k + 1, by omega, by go_num, by first | rw [cn_yes hlt (by assumption)] | rw [cn_no hlt (by assumption)]⟩
        case measure => simp [intOf]; omega
    · go_wp2
      go_ret
      exact ⟨ret_int (by rw [List.take_of_length_le (by simp; omega)]), rfl⟩

set_option maxRecDepth 50000 in
set_option maxHeartbeats 400000 in
theorem findOpen_any (s : ByteArray) (w : World) (hs : s.size ≤ maxLen) :
    Calls Try.prog 105 #[.string s] w fun e w' => e = .returned (.int .i64 (fo s.data.toList)) ∧ w' = w := by
  unfold maxLen at hs
  go_enter Try.func105, Try.ntmps105
  go_wp2
  go_loop [3] (fun i => ∃ k : Nat, k ≤ s.size ∧ i = .int .i64 k ∧ k ≤ foN s.data.toList) (fun i => s.size - (intOf i).toNat)
  case atStart => exact ⟨0, Nat.zero_le _, rfl, Nat.zero_le _⟩
  case round =>
    obtain ⟨k, hk, rfl, hf⟩ := hrel
    by_cases hlt : k < s.size
    · go_wp2
      · go_ret
        exact ⟨ret_int (by rw [fo_hit hlt hf (by assumption)]), rfl⟩
      · go_round
        case rel => exact ⟨k + 1, by omega, by go_num, fo_miss hlt hf (by assumption)⟩
        case measure => simp [intOf]; omega
    · go_wp2
      go_ret
      exact ⟨ret_int (by rw [fo_end hlt hf]), rfl⟩

theorem ret_bool {a b : Bool} (h : a = b) : Ending.returned (.bool a) = .returned (.bool b) := by rw [h]

set_option maxRecDepth 50000 in
set_option maxHeartbeats 400000 in
theorem isPart_any (s : ByteArray) (w : World) (hs : s.size ≤ maxLen) :
    Calls Try.prog 106 #[.string s] w fun e w' => e = .returned (.bool (isP s.data.toList)) ∧ w' = w := by
  unfold maxLen at hs
  have hl : s.data.toList.length = s.size := by simp
  by_cases h12 : s.size ≤ 12
  · go_enter Try.func106, Try.ntmps106
    go_wp2
    go_loop [3] (fun i => ∃ k : Nat, k ≤ s.size ∧ i = .int .i64 k ∧ allBits (s.data.toList.take k) = true) (fun i => s.size - (intOf i).toNat)
    case atStart => exact ⟨0, Nat.zero_le _, rfl, rfl⟩
    case round =>
      obtain ⟨k, hk, rfl, hf⟩ := hrel
      by_cases hlt : k < s.size
      · go_wp2
        · go_round
          case rel => exact ⟨k + 1, by omega, by go_num, allBits_48 hlt hf (by assumption)⟩
          case measure => simp [intOf]; omega
        · go_ret
          have hh : ((s[k].toNat : Int) != 48) = true ∧ ((s[k].toNat : Int) != 49) = true := by assumption
          exact ⟨ret_bool (by simp [isP, allBits_bad hlt hh.1 hh.2]), rfl⟩
        · go_round
          case rel => exact ⟨k + 1, by omega, by go_num, allBits_49 hlt hf (by assumption) (by assumption)⟩
          case measure => simp [intOf]; omega
      · go_wp2
        go_ret
        exact ⟨ret_bool (by rw [List.take_of_length_le (by simp; omega)] at hf; simp [isP, hf, hl, h12]), rfl⟩
  · go_enter Try.func106, Try.ntmps106
    go_wp2
    go_ret
    exact ⟨ret_bool (by simp [isP, hl, h12]), rfl⟩

set_option maxRecDepth 50000 in
set_option maxHeartbeats 400000 in
theorem digit_any (x : Bool) (w : World) :
    Calls Try.prog 99 #[.bool x] w fun e w' => e = .returned (.int .u8 ((bb x).toNat : Int)) ∧ w' = w := by
  cases x
  all_goals
    go_enter Try.func99, Try.ntmps99
    go_wp2
    go_ret
    exact ⟨rfl, rfl⟩

set_option maxRecDepth 50000 in
set_option maxHeartbeats 400000 in
theorem common_any (a b : Nat) (w : World) (ha : a ≤ 1099511627776) (hb : b ≤ 1048576) :
    Calls Try.prog 104 #[.int .i64 a, .int .i64 b] w fun e w' => e = .returned (.int .i64 (Nat.lcm a b : Nat)) ∧ w' = w := by
  by_cases ha0 : a = 0
  · subst ha0
    go_enter Try.func104, Try.ntmps104
    go_wp2
    go_ret
    exact ⟨ret_int (by simp), rfl⟩
  by_cases hb0 : b = 0
  · subst hb0
    have h1 : (1 : Int) ≤ a := by omega
    go_enter Try.func104, Try.ntmps104
    go_wp2
    go_ret
    exact ⟨ret_int (by simp), rfl⟩
  have h1 : (1 : Int) ≤ a := by omega
  have h2 : (1 : Int) ≤ b := by omega
  have hL : Nat.lcm a b ≤ 1099511627776 * 1048576 := Nat.le_trans (lcm_le_mul a b) (Nat.mul_le_mul ha hb)
  go_enter Try.func104, Try.ntmps104
  go_wp2
  go_loop [5] (fun i => ∃ n : Nat, (∃ j, 0 < j ∧ n = a * j) ∧ n ≤ Nat.lcm a b ∧ i = .int .i64 n) (fun i => Nat.lcm a b - (intOf i).toNat)
  case atStart => exact ⟨a, ⟨1, by omega, by omega⟩, Nat.le_of_dvd (Nat.lcm_pos (by omega) (by omega)) (Nat.dvd_lcm_left a b), rfl⟩
  case round =>
    obtain ⟨n, HJ, hle, rfl⟩ := hrel
    have hn0 : n ≤ 1152921504606846976 := by omega
    by_cases hm : n % b = 0
    · have hmi : (n : Int) % (b : Int) = 0 := by omega
      go_wp2
      go_ret
      obtain ⟨j, hj, rfl⟩ := HJ
      exact ⟨ret_int (by rw [lcm_done (by omega) hj hle hm]), rfl⟩
    · have hmi : ¬ (n : Int) % (b : Int) = 0 := by omega
      go_wp2
      go_round
      case rel =>
        obtain ⟨j, hj, rfl⟩ := HJ
        exact ⟨a * (j + 1), ⟨j + 1, by omega, rfl⟩, lcm_step (by omega) hle hm, by rw [Nat.mul_add, Nat.mul_one]; go_num⟩
      case measure =>
        obtain ⟨j, hj, rfl⟩ := HJ
        have := lcm_step (by omega) hle hm
        rw [Nat.mul_add, Nat.mul_one] at this
        simp only [intOf]; omega
end Go.Proofs.Ytfbkjopidjojeab

namespace Go.Proofs.Ytfbkjopidjojeab

/-- Bit n of the word u(v). -/
def bitAt (u v : List Bool) (n : Nat) : Bool := if n < u.length then u.getD n false else v.getD ((n - u.length) % v.length) false

theorem getD_lt {l : List Bool} {i : Nat} (h : i < l.length) : l.getD i false = l[i] := by simp [h]

/-- From m on the stream repeats after p. -/
def EP (f : Nat → Bool) (m p : Nat) : Prop := 0 < p ∧ ∀ n, m ≤ n → f (n + p) = f n

theorem EP_bitAt (u v : List Bool) (hv : v ≠ []) : EP (bitAt u v) u.length v.length := by
  refine ⟨List.length_pos_iff.2 hv, fun n hn => ?_⟩
  unfold bitAt
  rw [if_neg (by omega), if_neg (by omega)]
  have : n + v.length - u.length = (n - u.length) + v.length := by omega
  rw [this, Nat.add_mod_right]

theorem EP.mono {f : Nat → Bool} {m m' p : Nat} (h : EP f m p) (hm : m ≤ m') : EP f m' p := ⟨h.1, fun n hn => h.2 n (by omega)⟩

theorem EP.mul {f : Nat → Bool} {m p : Nat} (h : EP f m p) (k : Nat) : ∀ n, m ≤ n → f (n + k * p) = f n := by
  induction k with
  | zero => intro n _; simp
  | succ k ih =>
    intro n hn
    have : n + (k + 1) * p = (n + k * p) + p := by rw [Nat.add_mul, Nat.one_mul]; omega
    rw [this, h.2 _ (by omega), ih n hn]

theorem EP.sub {f : Nat → Bool} {m p q : Nat} (hp : EP f m p) (hq : EP f m q) (hlt : p < q) : EP f m (q - p) := by
  refine ⟨by omega, fun n hn => ?_⟩
  have e1 := hq.2 n hn
  have e2 := hp.2 (n + (q - p)) (by omega)
  have : n + (q - p) + p = n + q := by omega
  rw [this] at e2
  rw [← e2, e1]

theorem EP.gcd {f : Nat → Bool} {m : Nat} : ∀ (s p q : Nat), p + q ≤ s → EP f m p → EP f m q → EP f m (Nat.gcd p q) := by
  intro s
  induction s with
  | zero => intro p q h hp _; have := hp.1; omega
  | succ s ih =>
    intro p q h hp hq
    rcases Nat.lt_trichotomy p q with hlt | heq | hgt
    · have := ih p (q - p) (by have := hp.1; omega) hp (hp.sub hq hlt)
      have e : Nat.gcd p q = Nat.gcd p (q - p) := by
        have : q = (q - p) + p := by omega
        conv => lhs; rw [this]
        rw [Nat.gcd_add_self_right]
      rw [e]; exact this
    · subst heq; rw [Nat.gcd_self]; exact hp
    · have := ih (p - q) q (by have := hq.1; omega) (hq.sub hp hgt) hq
      have e : Nat.gcd p q = Nat.gcd (p - q) q := by
        have : p = (p - q) + q := by omega
        conv => lhs; rw [this]
        rw [Nat.gcd_add_self_left]
      rw [e]; exact this

/-- A period that holds at last holds from where another one holds. -/
theorem EP.from {f : Nat → Bool} {m m' p q : Nat} (hp : EP f m p) (hq : EP f m' q) : EP f m q := by
  refine ⟨hq.1, fun n hn => ?_⟩
  have e1 := hp.mul m' (n + q) (by omega)
  have e2 := hp.mul m' n hn
  have h0 : m' ≤ m' * p := Nat.le_mul_of_pos_right _ hp.1
  have e3 := hq.2 (n + m' * p) (by omega)
  have : n + q + m' * p = n + m' * p + q := by omega
  rw [this] at e1
  rw [← e1, e3, e2]

/-- The normal form of a stream: the shortest second part, then the shortest first part. -/
structure NF (f : Nat → Bool) (u v : List Bool) : Prop where
  ne : v ≠ []
  bits : ∀ n, bitAt u v n = f n
  per : ∀ m p, EP f m p → v.length ≤ p
  pre : ∀ m, EP f m v.length → u.length ≤ m

theorem NF.ep {f : Nat → Bool} {u v : List Bool} (h : NF f u v) : EP f u.length v.length := by
  have e : bitAt u v = f := funext h.bits
  rw [← e]; exact EP_bitAt u v h.ne

theorem bitAt_lead {u v : List Bool} {n : Nat} (h : n < u.length) : bitAt u v n = u[n] := by
  unfold bitAt; rw [if_pos h]; simp [h]
theorem bitAt_round {u v : List Bool} {n : Nat} (h : n < v.length) : bitAt u v (u.length + n) = v[n] := by
  unfold bitAt; rw [if_neg (by omega)]
  have : u.length + n - u.length = n := by omega
  rw [this, Nat.mod_eq_of_lt h]; simp [h]

theorem parts_eq {u v u' v' : List Bool} (hu : u.length = u'.length) (hv : v.length = v'.length) (h : ∀ n, bitAt u v n = bitAt u' v' n) : u = u' ∧ v = v' := by
  constructor
  · apply List.ext_getElem hu
    intro n h1 h2
    have := h n
    rw [bitAt_lead h1, bitAt_lead h2] at this; exact this
  · apply List.ext_getElem hv
    intro n h1 h2
    have := h (u.length + n)
    rw [bitAt_round h1, hu, bitAt_round h2] at this; exact this

theorem NF.unique {f : Nat → Bool} {u v u' v' : List Bool} (h : NF f u v) (h' : NF f u' v') : u = u' ∧ v = v' := by
  have hv : v.length = v'.length := by
    have a := h.per _ _ h'.ep
    have b := h'.per _ _ h.ep
    omega
  have hu : u.length = u'.length := by
    have a := h.pre u'.length (by rw [hv]; exact h'.ep)
    have b := h'.pre u.length (by rw [← hv]; exact h.ep)
    omega
  exact parts_eq hu hv fun n => by rw [h.bits, h'.bits]

theorem NF.congr {f g : Nat → Bool} {u v : List Bool} (h : NF f u v) (e : ∀ n, f n = g n) : NF g u v := by
  have : f = g := funext e
  rw [← this]; exact h

/-- A list is its first p members again and again. -/
def Per (l : List Bool) (p : Nat) : Prop := ∀ i, i + p < l.length → l.getD (i + p) false = l.getD i false

theorem Per.mul {l : List Bool} {p : Nat} (h : Per l p) (t : Nat) : ∀ i, i + t * p < l.length → l.getD (i + t * p) false = l.getD i false := by
  induction t with
  | zero => intro i _; simp
  | succ t ih =>
    intro i hi
    have e : i + (t + 1) * p = (i + t * p) + p := by rw [Nat.add_mul, Nat.one_mul]; omega
    rw [e] at hi ⊢
    rw [h _ hi, ih i (by omega)]

theorem EP_of_Per {u v : List Bool} {p : Nat} (hp : 0 < p) (hd : p ∣ v.length) (hv : v ≠ []) (h : Per v p) : EP (bitAt u v) u.length p := by
  refine ⟨hp, fun n hn => ?_⟩
  have hL : 0 < v.length := List.length_pos_iff.2 hv
  unfold bitAt
  rw [if_neg (by omega), if_neg (by omega)]
  have e : n + p - u.length = (n - u.length) + p := by omega
  rw [e]
  generalize n - u.length = k
  obtain ⟨c, hc⟩ := hd
  have hj : k % v.length < v.length := Nat.mod_lt _ hL
  have hle : p ≤ v.length := Nat.le_of_dvd hL ⟨c, hc⟩
  have e2 : (k + p) % v.length = (k % v.length + p) % v.length := by rw [Nat.mod_add_mod]
  rw [e2]
  generalize k % v.length = j at hj
  rcases Nat.lt_or_ge (j + p) v.length with g | g
  · rw [Nat.mod_eq_of_lt g]; exact h j g
  · have e3 : (j + p) % v.length = j + p - v.length := by
      rw [Nat.mod_eq_sub_mod g, Nat.mod_eq_of_lt (by omega)]
    rw [e3]
    have hc0 : 0 < c := by
      rcases Nat.eq_zero_or_pos c with z | z
      · rw [z] at hc; omega
      · exact z
    have hc1 : v.length = (c - 1) * p + p := by
      rw [hc]
      have : c = (c - 1) + 1 := by omega
      conv => lhs; rw [this]
      rw [Nat.mul_add, Nat.mul_one, Nat.mul_comm p (c - 1)]
    have e4 : j = (j + p - v.length) + (c - 1) * p := by omega
    have := h.mul (c - 1) (j + p - v.length) (by omega)
    rw [← e4] at this
    exact this.symm

theorem Per_of_EP {u v : List Bool} {p : Nat} (h : EP (bitAt u v) u.length p) : Per v p := by
  intro i hi
  have e := h.2 (u.length + i) (by omega)
  have a1 : u.length + i + p = u.length + (i + p) := by omega
  rw [a1, bitAt_round hi, bitAt_round (by omega : i < v.length)] at e
  rw [getD_lt hi, getD_lt (by omega : i < v.length), e]

/-- The word with its shortest parts, as a program sees it. -/
structure Red (u v : List Bool) : Prop where
  ne : v ≠ []
  per : ∀ p, 0 < p → p < v.length → p ∣ v.length → ¬ Per v p
  last : ∀ k, k + 1 = u.length → u.getD k false ≠ v.getD (v.length - 1) false

theorem Red.nf {u v : List Bool} (h : Red u v) : NF (bitAt u v) u v := by
  have h0 := EP_bitAt u v h.ne
  refine ⟨h.ne, fun _ => rfl, fun m p hp => ?_, fun m hm => ?_⟩
  · have h1 : EP (bitAt u v) u.length p := h0.from hp
    have h2 := EP.gcd _ p v.length (Nat.le_refl _) h1 h0
    rcases Nat.lt_or_ge (Nat.gcd p v.length) v.length with g | g
    · exact absurd (Per_of_EP h2) (h.per _ h2.1 g (Nat.gcd_dvd_right _ _))
    · exact Nat.le_trans g (Nat.le_of_dvd hp.1 (Nat.gcd_dvd_left _ _))
  · rcases Nat.lt_or_ge m u.length with g | g
    · exfalso
      have e := hm.2 (u.length - 1) (by omega)
      have hL : 0 < v.length := List.length_pos_iff.2 h.ne
      apply h.last (u.length - 1) (by omega)
      have a1 : u.length - 1 + v.length = u.length + (v.length - 1) := by omega
      rw [a1, bitAt_round (by omega : v.length - 1 < v.length), bitAt_lead (by omega : u.length - 1 < u.length)] at e
      rw [getD_lt (by omega : u.length - 1 < u.length), getD_lt (by omega : v.length - 1 < v.length), e]
    · exact g

/-- k bits of a stream from a on. -/
def tab (f : Nat → Bool) (a k : Nat) : List Bool := (List.range k).map fun i => f (a + i)
theorem tab_length (f : Nat → Bool) (a k : Nat) : (tab f a k).length = k := by simp [tab]
theorem tab_getD (f : Nat → Bool) (a k i : Nat) (h : i < k) : (tab f a k).getD i false = f (a + i) := by
  rw [getD_lt (by rw [tab_length]; exact h)]; simp [tab]

theorem bitAt_tab {f : Nat → Bool} {m p : Nat} (h : EP f m p) : ∀ n, bitAt (tab f 0 m) (tab f m p) n = f n := by
  intro n
  unfold bitAt
  rw [tab_length, tab_length]
  by_cases hn : n < m
  · rw [if_pos hn, tab_getD _ _ _ _ hn, Nat.zero_add]
  · rw [if_neg hn, tab_getD _ _ _ _ (Nat.mod_lt _ h.1)]
    have := h.mul ((n - m) / p) (m + (n - m) % p) (by omega)
    have e : m + (n - m) % p + (n - m) / p * p = n := by
      have := Nat.mod_add_div (n - m) p
      rw [Nat.mul_comm] at this; omega
    rw [e] at this; exact this.symm

/-- Two streams that repeat are the same if they are so far enough. -/
theorem eq_of_EP {f g : Nat → Bool} {m p q : Nat} (hf : EP f m p) (hg : EP g m q) (h : ∀ n, n < m + p * q → f n = g n) : ∀ n, f n = g n := by
  intro n
  by_cases hn : n < m + p * q
  · exact h n hn
  · have hpq : 0 < p * q := Nat.mul_pos hf.1 hg.1
    have a := hf.mul (q * ((n - m) / (p * q))) (m + (n - m) % (p * q)) (by omega)
    have b := hg.mul (p * ((n - m) / (p * q))) (m + (n - m) % (p * q)) (by omega)
    have e : m + (n - m) % (p * q) + (p * q) * ((n - m) / (p * q)) = n := by
      have := Nat.mod_add_div (n - m) (p * q); omega
    have e1 : q * ((n - m) / (p * q)) * p = (p * q) * ((n - m) / (p * q)) := by
      rw [Nat.mul_comm, ← Nat.mul_assoc]
    have e2 : p * ((n - m) / (p * q)) * q = (p * q) * ((n - m) / (p * q)) := by
      rw [Nat.mul_comm, ← Nat.mul_assoc, Nat.mul_comm q p]
    rw [e1, e] at a; rw [e2, e] at b
    rw [a, b]
    exact h _ (by have := Nat.mod_lt (n - m) hpq; omega)
end Go.Proofs.Ytfbkjopidjojeab

namespace Go.Proofs.Ytfbkjopidjojeab
open Go.RowKit

theorem bcell {W w1 : World} (hb : Below W.heap.size W w1) : (∀ b o, b < W.heap.size → w1.cell? ⟨b, o, none⟩ = W.cell? ⟨b, o, none⟩) ∧ (∀ b o, b < W.heap.size → w1.frozen? ⟨b, o, none⟩ = W.frozen? ⟨b, o, none⟩) :=
  ⟨fun b o h => hb.cell (p := ⟨b, o, none⟩) h, fun b o h => hb.frozen (p := ⟨b, o, none⟩) h⟩

set_option maxRecDepth 50000 in
set_option maxHeartbeats 400000 in
theorem bit_lead (u v : ByteArray) (n : Nat) (w : World) (_hu : u.size ≤ 1152921504606846976) (_hv0 : v.toList.isEmpty = false) (hn : n < u.size) :
    Calls Try.prog 70 #[.agg #[.string u, .string v], .int .i64 n] w fun e w' => e = .returned (.bool ((u[n].toNat : Int) == 49)) ∧ Below w.heap.size w w' := by
  go_enter Try.func70, Try.ntmps70
  go_wp2
  go_ret
  exact ⟨rfl, ((Below.refl _ _).alloc (Nat.le_refl _) _).alloc (by simp) _⟩

set_option maxRecDepth 50000 in
set_option maxHeartbeats 400000 in
theorem bit_round (u v : ByteArray) (n : Nat) (w : World) (hv0 : v.toList.isEmpty = false) (hu : u.size ≤ 1152921504606846976) (hv : v.size ≤ 1152921504606846976) (hpos : 0 < v.size) (hn : u.size ≤ n) (hn2 : n ≤ 1152921504606846976) (hlt : (n - u.size) % v.size < v.size) :
    Calls Try.prog 70 #[.agg #[.string u, .string v], .int .i64 n] w fun e w' => e = .returned (.bool ((v[(n - u.size) % v.size].toNat : Int) == 49)) ∧ Below w.heap.size w w' := by
  have hp : (1 : Int) ≤ (v.size : Int) := by omega
  have hm : (u.size : Int) ≤ (n : Int) := by omega
  have hm2 : (0 : Int) ≤ (n : Int) - (u.size : Int) := by omega
  have hi : (0 : Int) ≤ ((n : Int) - (u.size : Int)) % (v.size : Int) := Int.emod_nonneg _ (by omega)
  have hi2 : ((n : Int) - (u.size : Int)) % (v.size : Int) < (v.size : Int) := Int.emod_lt_of_pos _ (by omega)
  go_enter Try.func70, Try.ntmps70
  go_wp2
  go_quiet (fail)
  go_wp2
  go_ret
  exact ⟨rfl, below_drewN (((Below.refl _ _).alloc (Nat.le_refl _) _).alloc (by simp) _) _⟩

theorem bs_nonempty {v : List Bool} (hv : v ≠ []) : (bs v).toList.isEmpty = false := by
  have h : 0 < v.length := List.length_pos_iff.2 hv
  have : (bs v).toList.length = v.length := by rw [ByteArray.toList_eq, bs_toList, List.length_map]
  cases e : (bs v).toList with
  | nil => rw [e] at this; simp at this; omega
  | cons _ _ => rfl

/-- A bit of a word. -/
theorem bit_any (u v : List Bool) (n : Nat) (w : World) (hv0 : v ≠ []) (hu : u.length ≤ 1152921504606846976) (hv : v.length ≤ 1152921504606846976) (hn : n ≤ 1152921504606846976) :
    Calls Try.prog 70 #[.agg #[.string (bs u), .string (bs v)], .int .i64 n] w fun e w' => e = .returned (.bool (bitAt u v n)) ∧ Below w.heap.size w w' := by
  have hL : 0 < v.length := List.length_pos_iff.2 hv0
  by_cases h : n < u.length
  · refine (bit_lead (bs u) (bs v) n w (by rw [bs_size]; exact hu) (bs_nonempty hv0) (by rw [bs_size]; exact h)).mono ?_
    rintro e w' ⟨rfl, hb⟩
    refine ⟨ret_bool ?_, hb⟩
    rw [bs_get, bb_49, bitAt_lead h]
  · have hlt : (n - u.length) % v.length < v.length := Nat.mod_lt _ hL
    refine (bit_round (bs u) (bs v) n w (bs_nonempty hv0) (by rw [bs_size]; exact hu) (by rw [bs_size]; exact hv) (by rw [bs_size]; exact hL) (by rw [bs_size]; omega) hn (by rw [bs_size, bs_size]; exact hlt)).mono ?_
    rintro e w' ⟨rfl, hb⟩
    refine ⟨ret_bool ?_, hb⟩
    rw [bs_get, bb_49]
    unfold bitAt
    rw [if_neg h, getD_lt hlt]
    simp only [bs_size]

/-- A word's text. -/
def txt (u v : ByteArray) : ByteArray := u ++ ⟨#[40]⟩ ++ v ++ ⟨#[41]⟩

set_option maxRecDepth 50000 in
set_option maxHeartbeats 400000 in
theorem Text_any (u v : ByteArray) (w : World) (hu : u.size ≤ 1152921504606846976) (hv : v.size ≤ 1152921504606846976) :
    Calls Try.prog 35 #[.agg #[.string u, .string v]] w fun e w' => e = .returned (.string (txt u v)) ∧ Below w.heap.size w w' := by
  go_enter Try.func35, Try.ntmps35
  go_wp2
  go_ret
  exact ⟨rfl, (Below.refl _ _).alloc (Nat.le_refl _) _⟩

set_option maxRecDepth 50000 in
set_option maxHeartbeats 400000 in
theorem Long_any (u v : ByteArray) (w : World) (hu : u.size ≤ 1152921504606846976) (hv : v.size ≤ 1152921504606846976) :
    Calls Try.prog 66 #[.agg #[.string u, .string v]] w fun e w' => e = .returned (.bool (decide (64 < u.size) || decide (64 < v.size))) ∧ Below w.heap.size w w' := by
  by_cases h : 64 < u.size
  · go_enter Try.func66, Try.ntmps66
    go_wp2
    go_ret
    exact ⟨ret_bool (by simp), (Below.refl _ _).alloc (Nat.le_refl _) _⟩
  · go_enter Try.func66, Try.ntmps66
    go_wp2
    go_ret
    exact ⟨ret_bool (by rw [Bool.eq_iff_iff]; simp; omega), (Below.refl _ _).alloc (Nat.le_refl _) _⟩

set_option maxRecDepth 50000 in
set_option maxHeartbeats 400000 in
theorem bothLead_any (u v x y : ByteArray) (w : World) (_hu : u.size ≤ 1152921504606846976) (_hv : x.size ≤ 1152921504606846976) :
    Calls Try.prog 91 #[.agg #[.string u, .string v], .agg #[.string x, .string y]] w fun e w' => e = .returned (.int .i64 (max u.size x.size : Nat)) ∧ Below w.heap.size w w' := by
  by_cases h : x.size < u.size
  · go_enter Try.func91, Try.ntmps91
    go_wp2
    go_ret
    exact ⟨ret_int (by omega), ((Below.refl _ _).alloc (Nat.le_refl _) _).alloc (by simp) _⟩
  · go_enter Try.func91, Try.ntmps91
    go_wp2
    go_ret
    exact ⟨ret_int (by omega), ((Below.refl _ _).alloc (Nat.le_refl _) _).alloc (by simp) _⟩

set_option maxRecDepth 50000 in
set_option maxHeartbeats 400000 in
theorem bothRound_any (u v x y : ByteArray) (w : World) (hv : v.size ≤ 1048576) (hy : y.size ≤ 1048576) :
    Calls Try.prog 92 #[.agg #[.string u, .string v], .agg #[.string x, .string y]] w fun e w' => e = .returned (.int .i64 (Nat.lcm v.size y.size : Nat)) ∧ Below w.heap.size w w' := by
  go_enter Try.func92, Try.ntmps92
  go_wp2_with (go_at_call 104; refine (common_any _ _ _ (by omega) (by omega)).mono ?_; rintro e w' ⟨rfl, rfl⟩)
  go_ret
  exact ⟨rfl, ((Below.refl _ _).alloc (Nat.le_refl _) _).alloc (by simp) _⟩

set_option maxRecDepth 50000 in
set_option maxHeartbeats 400000 in
theorem drift_any (u v x y : ByteArray) (w : World) (hv : v.size ≤ 1048576) (hy : y.size ≤ 1048576) :
    Calls Try.prog 74 #[.agg #[.string u, .string v], .agg #[.string x, .string y]] w fun e w' => e = .returned (.int .i64 (cn v.data.toList * (y.size : Int) - cn y.data.toList * (v.size : Int))) ∧ Below w.heap.size w w' := by
  have c1 := cn_le v.data.toList
  have c2 := cn_le y.data.toList
  have l1 : v.data.toList.length = v.size := by simp
  have l2 : y.data.toList.length = y.size := by simp
  rw [l1] at c1; rw [l2] at c2
  clear l1 l2
  have m1 : 0 ≤ cn v.data.toList * (y.size : Int) ∧ cn v.data.toList * (y.size : Int) ≤ 1048576 * 1048576 := ⟨Int.mul_nonneg c1.1 (by omega), Int.mul_le_mul (by omega) (by omega) (by omega) (by omega)⟩
  have m2 : 0 ≤ cn y.data.toList * (v.size : Int) ∧ cn y.data.toList * (v.size : Int) ≤ 1048576 * 1048576 := ⟨Int.mul_nonneg c2.1 (by omega), Int.mul_le_mul (by omega) (by omega) (by omega) (by omega)⟩
  obtain ⟨m1a, m1b⟩ := m1
  obtain ⟨m2a, m2b⟩ := m2
  go_enter Try.func74, Try.ntmps74
  go_wp2
  go_quiet ((go_at_call 90; exact Calls.quiet_of_same (count_any _ _ (by unfold maxLen; omega))))
  go_wp2
  go_ret
  exact ⟨rfl, below_drewN (((Below.refl _ _).alloc (Nat.le_refl _) _).alloc (by simp) _) _⟩
end Go.Proofs.Ytfbkjopidjojeab

namespace Go.Proofs.Ytfbkjopidjojeab
open Go.RowKit

theorem w64 (n : Int) (h : -9223372036854775808 ≤ n ∧ n ≤ 9223372036854775807) : wrap64 n = n := by unfold wrap64; omega
theorem mul_step (k g : Nat) : (k + 1) * g = k * g + g := by rw [Nat.add_mul, Nat.one_mul]

/-- What onLead gives. -/
def OnLead (u v x : ByteArray) (e : Ending) : Prop :=
  ∃ k : Nat, e = .returned (.int .i64 (u.size + k * v.size : Nat)) ∧ k ≤ x.size ∧ (0 < cn v.data.toList → (x.size : Int) ≤ cn u.data.toList + k * cn v.data.toList) ∧ (cn v.data.toList = 0 → k = 0)

set_option maxRecDepth 50000 in
set_option maxHeartbeats 800000 in
theorem onLead_any (u v x y : ByteArray) (w : World) (hu : u.size ≤ 1048576) (hv : v.size ≤ 1048576) (hx : x.size ≤ 1048576) :
    Calls Try.prog 97 #[.agg #[.string u, .string v], .agg #[.string x, .string y]] w fun e w' =>
      OnLead u v x e ∧ Below w.heap.size w w' := by
  obtain ⟨g, hg⟩ : ∃ g : Nat, cn v.data.toList = g := ⟨_, rfl⟩
  obtain ⟨c, hc⟩ : ∃ c : Nat, cn u.data.toList = c := ⟨_, rfl⟩
  have hg1 : g ≤ 1048576 := by have := cn_le v.data.toList; rw [hg] at this; simp at this; omega
  have hc1 : c ≤ 1048576 := by have := cn_le u.data.toList; rw [hc] at this; simp at this; omega
  by_cases h0 : g = 0
  · subst h0
    go_enter Try.func97, Try.ntmps97
    go_wp2_with (go_at_call 90; refine (count_any _ _ (by unfold maxLen; omega)).mono ?_; rintro e w' ⟨rfl, rfl⟩)
    go_ret
    exact ⟨⟨0, ret_int (by simp), by omega, fun h => by rw [hg] at h; omega, fun _ => rfl⟩, ((Below.refl _ _).alloc (Nat.le_refl _) _).alloc (by simp) _⟩
  · have hg0 : (1 : Int) ≤ g := by omega
    go_enter Try.func97, Try.ntmps97
    go_wp2_with (go_at_call 90; refine (count_any _ _ (by unfold maxLen; omega)).mono ?_; rintro e w' ⟨rfl, rfl⟩)
    go_loop [5, 7] (fun a b => ∃ k L U : Nat, Hid (L = u.size + k * v.size) ∧ Hid (U = c + k * g) ∧ k ≤ x.size ∧ L ≤ 1152921504606846976 ∧ U ≤ 1152921504606846976 ∧ a = .int .i64 L ∧ b = .int .i64 U) (fun _ b => x.size - (intOf b).toNat)
    case atStart => exact ⟨0, u.size, c, by show _ = _; omega, by show _ = _; omega, by omega, by omega, by omega, rfl, rfl⟩
    case round =>
      obtain ⟨k, L, U, HL, HU, hk, hLb, hUb, rfl, rfl⟩ := hrel
      by_cases hlt : U < x.size
      · have hk1 : k < x.size := by have := HU.out; have : k * 1 ≤ k * g := Nat.mul_le_mul_left k (by omega); omega
        go_wp2
        go_round
        case rel =>
          have eL := HL.out
          have eU := HU.out
          have b1 : (k + 1) * v.size ≤ 1048576 * 1048576 := Nat.mul_le_mul (by omega) hv
          have b2 : (k + 1) * g ≤ 1048576 * 1048576 := Nat.mul_le_mul (by omega) hg1
          exact ⟨k + 1, u.size + (k + 1) * v.size, c + (k + 1) * g, rfl, rfl, by omega, by omega, by omega, by rw [mul_step]; go_num, by rw [mul_step]; go_num⟩
        case measure => simp [intOf]; omega
      · go_wp2
        go_ret
        have eL := HL.out
        have eU := HU.out
        refine ⟨⟨k, ret_int (by rw [eL]), hk, fun _ => ?_, fun h => by rw [hg] at h; omega⟩, ((Below.refl _ _).alloc (Nat.le_refl _) _).alloc (by simp) _⟩
        rw [hc, hg]
        have : ((c + k * g : Nat) : Int) = (c : Int) + k * g := by simp
        omega

set_option maxRecDepth 50000 in
set_option maxHeartbeats 800000 in
theorem onRound_any (u v x y : ByteArray) (w : World) (hv : v.size ≤ 1048576) (hy : y.size ≤ 1048576) (g : Nat) (hg : cn v.data.toList = g) :
    Calls Try.prog 98 #[.agg #[.string u, .string v], .agg #[.string x, .string y]] w fun e w' =>
      e = .returned (.int .i64 ((if g = 0 then v.size else Nat.lcm g y.size / g * v.size : Nat))) ∧ Below w.heap.size w w' := by
  have hg1 : g ≤ 1048576 := by have := cn_le v.data.toList; rw [hg] at this; simp at this; omega
  by_cases h0 : g = 0
  · subst h0
    go_enter Try.func98, Try.ntmps98
    go_wp2_with (go_at_call 90; refine (count_any _ _ (by unfold maxLen; omega)).mono ?_; rintro e w' ⟨rfl, rfl⟩)
    go_ret
    exact ⟨ret_int (by simp), ((Below.refl _ _).alloc (Nat.le_refl _) _).alloc (by simp) _⟩
  · have hg0 : (1 : Int) ≤ g := by omega
    have hgn : ¬ (g : Int) = 0 := by omega
    rw [if_neg h0]
    have hL : Nat.lcm g y.size ≤ 1048576 * 1048576 := Nat.le_trans (lcm_le_mul _ _) (Nat.mul_le_mul hg1 hy)
    have hq : Nat.lcm g y.size / g ≤ 1048576 := by
      apply Nat.le_trans (Nat.div_le_div_right (lcm_le_mul g y.size))
      rw [Nat.mul_div_cancel_left _ (by omega)]; exact hy
    have hQ : Nat.lcm g y.size / g * v.size ≤ 1048576 * 1048576 := Nat.mul_le_mul hq hv
    have hQe : (((Nat.lcm g y.size / g * v.size : Nat)) : Int) = ((Nat.lcm g y.size : Nat) : Int) / (g : Int) * (v.size : Int) := by rw [Int.natCast_mul, Int.natCast_ediv]
    have hQ1 : ((Nat.lcm g y.size : Nat) : Int) / (g : Int) * (v.size : Int) ≤ 1099511627776 := by rw [← hQe]; omega
    have hQ2 : 0 ≤ ((Nat.lcm g y.size : Nat) : Int) / (g : Int) * (v.size : Int) := by rw [← hQe]; omega
    have HQ : Hid _ := hQe
    clear hQe hQ
    go_enter Try.func98, Try.ntmps98
    go_wp2_with (go_at_call 90; refine (count_any _ _ (by unfold maxLen; omega)).mono ?_; rintro e w' ⟨rfl, rfl⟩)
    go_quiet ((go_at_call 104; exact Calls.quiet_of_same (common_any _ _ _ (by omega) (by omega))))
    go_wp2
    go_ret
    refine ⟨?_, below_drewN (((Below.refl _ _).alloc (Nat.le_refl _) _).alloc (by simp) _) _⟩
    have hd : (((Nat.lcm g y.size / g : Nat)) : Int) = ((Nat.lcm g y.size : Nat) : Int) / (g : Int) := by rw [Int.natCast_ediv]
    obtain ⟨q, hqe⟩ : ∃ q, q = Nat.lcm g y.size / g := ⟨_, rfl⟩
    have hq1 : q ≤ 1048576 := by rw [hqe]; exact hq
    rw [← hqe] at hd
    clear hq hqe
    exact ret_int (by rw [HQ.out, w64 (((Nat.lcm g y.size : Nat) : Int) / (g : Int)) (by omega), w64 _ (by omega)])
end Go.Proofs.Ytfbkjopidjojeab

namespace Go.Proofs.Ytfbkjopidjojeab
open Go.RowKit

/-- Cells of memory that hold bits, as bytes. -/
def Held (w : World) (b off : Nat) (l : List Bool) : Prop := ∀ i, i < l.length → w.cell? ⟨b, off + i, none⟩ = some (.int .u8 ((bb (l.getD i false)).toNat : Int))

/-- Are the first k members from p on those p earlier? -/
def PerTo (l : List Bool) (p k : Nat) : Prop := ∀ i, p ≤ i → i < k → l.getD i false = l.getD (i - p) false

theorem bb_ne {a b : Bool} (h : (((bb a).toNat : Int) != ((bb b).toNat : Int)) = true) : a ≠ b := by
  intro e; subst e; simp at h
theorem bb_eq {a b : Bool} (h : (((bb a).toNat : Int) != ((bb b).toNat : Int)) = false) : a = b := by
  cases a <;> cases b <;> simp_all [bb]
theorem Per_of_PerTo {l : List Bool} {p : Nat} (h : PerTo l p l.length) : Per l p := by
  intro i hi
  have := h (i + p) (by omega) hi
  rw [this]; congr 1; omega
theorem not_Per {l : List Bool} {p k : Nat} (hp : p ≤ k) (hk : k < l.length) (h : l.getD k false ≠ l.getD (k - p) false) : ¬ Per l p := by
  intro g
  have := g (k - p) (by omega)
  have e : k - p + p = k := by omega
  rw [e] at this; exact h this

/-- What repeats gives. -/
def Rep (l : List Bool) (p : Nat) (e : Ending) : Prop := ∃ r : Bool, e = .returned (.bool r) ∧ Hid (r = true ↔ Per l p)

set_option maxRecDepth 50000 in
set_option maxHeartbeats 800000 in
theorem repeats_any (l : List Bool) (p b off cap : Nat) (w : World) (hl : l.length ≤ 1152921504606846976) (hp0 : 0 < p) (hp : p ≤ l.length) (hc : Held w b off l) :
    Calls Try.prog 108 #[.slice (some ⟨b, off, none⟩) l.length cap, .int .i64 p] w fun e w' => Rep l p e ∧ (∃ n, w' = w.drewN n) := by
  go_enter Try.func108, Try.ntmps108
  go_wp2
  go_loopw [5] (fun i wr => ∃ k nd : Nat, p ≤ k ∧ k ≤ l.length ∧ i = .int .i64 k ∧ Hid (PerTo l p k) ∧ wr = w.drewN nd) (fun i _ => l.length - (intOf i).toNat)
  case atStart => exact ⟨p, 0, Nat.le_refl _, hp, rfl, fun i h1 h2 => by omega, rfl⟩
  case round =>
    obtain ⟨k, nd, hk1, hk, rfl, hf, rfl⟩ := hrel
    by_cases hlt : k < l.length
    · have c1 := hc k hlt
      have c2 := hc (k - p) (by omega)
      obtain ⟨x, hx⟩ : ∃ x, x = l.getD k false := ⟨_, rfl⟩
      obtain ⟨y, hy⟩ : ∃ y, y = l.getD (k - p) false := ⟨_, rfl⟩
      rw [← hx] at c1
      rw [← hy] at c2
      have HX : Hid (x = l.getD k false) := hx
      have HY : Hid (y = l.getD (k - p) false) := hy
      clear hx hy
      have hkp : (0 : Int) ≤ (k : Int) - (p : Int) := by omega
      have hkl : (k : Int) < (l.length : Int) := by omega
      have hkl2 : (k : Int) - (p : Int) < (l.length : Int) := by omega
      go_wp2
      go_quiet (fail)
      go_wp2
      · go_ret
        have hne : (((bb x).toNat : Int) != ((bb y).toNat : Int)) = true := by assumption
        have hno : ¬ Per l p := not_Per hk1 hlt (by rw [← HX.out, ← HY.out]; exact bb_ne hne)
        exact ⟨⟨false, rfl, ⟨fun h => by simp at h, fun h => absurd h hno⟩⟩, nd + nq, by simp⟩
      · have heq : (((bb x).toNat : Int) != ((bb y).toNat : Int)) = false := by assumption
        go_roundw
        case rel =>
          refine ⟨k + 1, nd + nq, by omega, by omega, by go_num, ?_, rfl⟩
          intro i h1 h2
          rcases Nat.lt_or_ge i k with g | g
          · exact hf.out i h1 g
          · have : i = k := by omega
            subst this
            rw [← HX.out, ← HY.out]; exact bb_eq heq
        case measure => simp [intOf]; omega
    · go_wp2
      go_ret
      have : k = l.length := by omega
      subst this
      exact ⟨⟨true, rfl, ⟨fun _ => Per_of_PerTo hf.out, fun _ => rfl⟩⟩, nd, rfl⟩

/-- What period gives. -/
def Peri (l : List Bool) (e : Ending) : Prop := ∃ p : Nat, e = .returned (.int .i64 p) ∧ 0 < p ∧ p ≤ l.length ∧ p ∣ l.length ∧ Per l p ∧ ∀ q, 0 < q → q < p → q ∣ l.length → ¬ Per l q

theorem Held.drewN {w : World} {b off : Nat} {l : List Bool} (h : Held w b off l) (n : Nat) : Held (w.drewN n) b off l := fun i hi => by
  have := h i hi
  simpa using this

set_option maxRecDepth 50000 in
set_option maxHeartbeats 800000 in
theorem period_any (l : List Bool) (b off cap : Nat) (w : World) (hl : l.length ≤ 1152921504606846976) (hl0 : 0 < l.length) (hc : Held w b off l) :
    Calls Try.prog 107 #[.slice (some ⟨b, off, none⟩) l.length cap] w fun e w' => Peri l e ∧ (∃ n, w' = w.drewN n) := by
  go_enter Try.func107, Try.ntmps107
  go_wp2
  go_loopw [3] (fun i wr => ∃ k nd : Nat, 0 < k ∧ k ≤ l.length ∧ i = .int .i64 k ∧ Hid (∀ q, 0 < q → q < k → q ∣ l.length → ¬ Per l q) ∧ wr = w.drewN nd) (fun i _ => l.length - (intOf i).toNat)
  case atStart => exact ⟨1, 0, by omega, by omega, rfl, fun q h1 h2 => by omega, rfl⟩
  case round =>
    obtain ⟨k, nd, hk0, hk, rfl, hf, rfl⟩ := hrel
    have hk1 : (1 : Int) ≤ (k : Int) := by omega
    by_cases hlt : k < l.length
    · by_cases hm : l.length % k = 0
      · have hmi : (l.length : Int) % (k : Int) = 0 := by omega
        go_wp2_with (go_at_call 108; refine (repeats_any l k b off cap _ hl hk0 hk (hc.drewN _)).mono ?_; rintro e w' ⟨⟨r, rfl, hr⟩, nq, rfl⟩)
        · have hr : Hid (r = true ↔ Per l k) := by assumption
          go_ret
          exact ⟨⟨k, rfl, hk0, hk, Nat.dvd_of_mod_eq_zero hm, hr.out.1 (by assumption), hf.out⟩, nd + nq, by simp⟩
        · have hr : Hid (r = true ↔ Per l k) := by assumption
          have hrf : r = false := by assumption
          go_roundw
          case rel =>
            refine ⟨k + 1, nd + nq, by omega, by omega, by go_num, ?_, rfl⟩
            intro q h1 h2 h3
            rcases Nat.lt_or_ge q k with g | g
            · exact hf.out q h1 g h3
            · have : q = k := by omega
              subst this
              intro hq
              rw [hr.out.2 hq] at hrf
              cases hrf
          case measure => simp [intOf]; omega
      · have hmi : ¬ (l.length : Int) % (k : Int) = 0 := by omega
        go_wp2
        go_roundw
        case rel =>
          refine ⟨k + 1, nd, by omega, by omega, by go_num, ?_, rfl⟩
          intro q h1 h2 h3
          rcases Nat.lt_or_ge q k with g | g
          · exact hf.out q h1 g h3
          · have : q = k := by omega
            subst this
            exact absurd (Nat.mod_eq_zero_of_dvd h3) hm
        case measure => simp [intOf]; omega
    · go_wp2
      go_ret
      have : k = l.length := by omega
      subst this
      exact ⟨⟨l.length, rfl, hl0, Nat.le_refl _, Nat.dvd_refl _, fun i hi => by omega, hf.out⟩, nd, rfl⟩
end Go.Proofs.Ytfbkjopidjojeab

namespace Go.Proofs.Ytfbkjopidjojeab
open Go.RowKit

theorem Try.under81 : Try.prog.underlying 81 = some (.slice 5) := by kernel_rfl
theorem Try.under5 : Try.prog.underlying 5 = some (.int .u8) := by kernel_rfl
theorem Try.under9 : Try.prog.underlying 9 = some .string := by kernel_rfl

theorem Held.alloc {w : World} {b off : Nat} {l : List Bool} (h : Held w b off l) (hb : b < w.heap.size) (o : Obj) : Held (w.alloc o) b off l := fun i hi => by
  rw [← h i hi]; exact ((Below.refl w.heap.size w).alloc (Nat.le_refl _) o).cell (p := ⟨b, off + i, none⟩) hb
theorem Held.below {w w' : World} {B b off : Nat} {l : List Bool} (h : Held w b off l) (hB : Below B w w') (hb : b < B) : Held w' b off l := fun i hi => by
  rw [← h i hi]; exact hB.cell (p := ⟨b, off + i, none⟩) hb
theorem Held.drop {w : World} {b off : Nat} {l : List Bool} (h : Held w b off l) (k : Nat) (hk : k ≤ l.length) : Held w b (off + k) (l.drop k) := fun i hi => by
  have h1 : k + i < l.length := by rw [List.length_drop] at hi; omega
  have := h (k + i) h1
  rw [Nat.add_assoc, this]
  congr 4
  simp
theorem Held.take {w : World} {b off : Nat} {l : List Bool} (h : Held w b off l) (k : Nat) : Held w b off (l.take k) := fun i hi => by
  have h1 : i < l.length := by rw [List.length_take] at hi; omega
  have h2 : i < k := by rw [List.length_take] at hi; omega
  rw [h i h1]
  congr 4
  simp [h2]

/-- Bytes that hold bits as a string. -/
theorem Held.string {w : World} {b off cap : Nat} {l : List Bool} (h : Held w b off l) :
    (convert 81 9 (.slice (some ⟨b, off, none⟩) l.length cap)).run Try.prog w = .ok (.string (bs l)) w := by
  have := run_convert_bytes_back (P := Try.prog) w 81 9 5 ⟨b, off, none⟩ cap (l.map bb) Try.under81 Try.under5 Try.under9 (fun j hj => by
    have hj' : j < l.length := by simpa using hj
    have e : (⟨b, off, none⟩ : Addr).add j = ⟨b, off + j, none⟩ := by unfold Addr.add; split <;> simp_all
    rw [e, h j hj', getD_lt hj']
    simp)
  rw [List.length_map] at this
  exact this

/-- From lead' on up to lead the bits are those p later. -/
def Strip (l : List Bool) (p lead k : Nat) : Prop := ∀ i, k ≤ i → i < lead → l.getD i false = l.getD (i + p) false

/-- What normal gives. -/
def Norm (l : List Bool) (lead : Nat) (e : Ending) : Prop := ∃ u v : List Bool, e = .returned (.agg #[.string (bs u), .string (bs v)]) ∧ NF (bitAt (l.take lead) (l.drop lead)) u v ∧ u.length ≤ lead ∧ v.length ≤ l.length - lead

theorem period_len (l : List Bool) (n b off cap : Nat) (w : World) (hn : l.length = n) (hl : n ≤ 1152921504606846976) (hl0 : 0 < n) (hc : Held w b off l) :
    Calls Try.prog 107 #[.slice (some ⟨b, off, none⟩) n cap] w fun e w' => Peri l e ∧ (∃ n, w' = w.drewN n) := by
  subst hn; exact period_any l b off cap w hl hl0 hc

theorem getD_drop (l : List Bool) (a i : Nat) : (l.drop a).getD i false = l.getD (a + i) false := by simp
theorem getD_take {l : List Bool} {a i : Nat} (h : i < a) : (l.take a).getD i false = l.getD i false := by simp [h]

/-- A bit of a word whose parts are cut out of one list. -/
theorem bitAt_cut {l : List Bool} {lead n : Nat} (hlead : lead < l.length) : bitAt (l.take lead) (l.drop lead) n = if n < lead then l.getD n false else l.getD (lead + (n - lead) % (l.length - lead)) false := by
  unfold bitAt
  have e1 : (l.take lead).length = lead := by rw [List.length_take]; omega
  have e2 : (l.drop lead).length = l.length - lead := by rw [List.length_drop]
  rw [e1, e2]
  by_cases h : n < lead
  · rw [if_pos h, if_pos h, getD_take h]
  · rw [if_neg h, if_neg h, getD_drop]

theorem bitAt_cut_lt {l : List Bool} {lead n : Nat} (hlead : lead < l.length) (hn : n < l.length) : bitAt (l.take lead) (l.drop lead) n = l.getD n false := by
  rw [bitAt_cut hlead]
  by_cases h : n < lead
  · rw [if_pos h]
  · rw [if_neg h, Nat.mod_eq_of_lt (by omega)]; congr 1; omega

theorem tab_eq {f : Nat → Bool} {l : List Bool} {a k : Nat} (h : ∀ i, i < k → f (a + i) = l.getD (a + i) false) (hl : a + k ≤ l.length) : tab f a k = (l.drop a).take k := by
  apply List.ext_getElem
  · rw [tab_length, List.length_take, List.length_drop]; omega
  · intro i h1 h2
    rw [tab_length] at h1
    have e : (tab f a k)[i]'(by rw [tab_length]; exact h1) = f (a + i) := by simp [tab]
    rw [e, h i h1, getD_lt (by omega)]
    simp

theorem strip_red {l : List Bool} {lead k p : Nat} (hlead : lead < l.length) (hk : k ≤ lead) (hp0 : 0 < p) (hp : p ≤ l.length - lead) (hd : p ∣ l.length - lead) (hper : Per (l.drop lead) p)
    (hmin : ∀ q, 0 < q → q < p → q ∣ l.length - lead → ¬ Per (l.drop lead) q) (hs : Strip l p lead k) (hend : ∀ j, j + 1 = k → l.getD j false ≠ l.getD (j + p) false) :
    NF (bitAt (l.take lead) (l.drop lead)) (l.take k) ((l.drop k).take p) := by
  have hdl : (l.drop lead).length = l.length - lead := by rw [List.length_drop]
  have htl : (l.take lead).length = lead := by rw [List.length_take]; omega
  have hne : l.drop lead ≠ [] := by intro h; rw [h] at hdl; simp at hdl; omega
  have hE : EP (bitAt (l.take lead) (l.drop lead)) lead p := by
    have := EP_of_Per (u := l.take lead) hp0 (by rw [hdl]; exact hd) hne hper
    rw [htl] at this; exact this
  have hE0 : EP (bitAt (l.take lead) (l.drop lead)) lead (l.length - lead) := by
    have := EP_bitAt (l.take lead) (l.drop lead) hne
    rw [htl, hdl] at this; exact this
  have hEk : EP (bitAt (l.take lead) (l.drop lead)) k p := by
    refine ⟨hp0, fun n hn => ?_⟩
    rcases Nat.lt_or_ge n lead with g | g
    · rw [bitAt_cut_lt hlead (by omega), bitAt_cut_lt hlead (by omega)]
      exact (hs n hn g).symm
    · exact hE.2 n g
  have t1 : tab (bitAt (l.take lead) (l.drop lead)) 0 k = l.take k := by
    have := tab_eq (f := bitAt (l.take lead) (l.drop lead)) (l := l) (a := 0) (k := k) (fun i hi => by rw [bitAt_cut_lt hlead (by omega)]) (by omega)
    rw [this, List.drop_zero]
  have t2 : tab (bitAt (l.take lead) (l.drop lead)) k p = (l.drop k).take p :=
    tab_eq (fun i hi => by rw [bitAt_cut_lt hlead (by omega)]) (by omega)
  have hlk : (l.take k).length = k := by rw [List.length_take]; omega
  have hlp : ((l.drop k).take p).length = p := by rw [List.length_take, List.length_drop]; omega
  refine ⟨?_, ?_, ?_, ?_⟩
  · intro h; rw [h] at hlp; simp at hlp; omega
  · intro n; rw [← t1, ← t2]; exact bitAt_tab hEk n
  · intro m q hq
    rw [hlp]
    have h1 := hE0.from hq
    have h2 := EP.gcd _ q (l.length - lead) (Nat.le_refl _) h1 hE0
    rcases Nat.lt_or_ge (Nat.gcd q (l.length - lead)) p with g | g
    · exfalso
      apply hmin _ h2.1 g (Nat.gcd_dvd_right _ _)
      apply Per_of_EP (u := l.take lead)
      rw [htl]; exact h2
    · exact Nat.le_trans g (Nat.le_of_dvd hq.1 (Nat.gcd_dvd_left _ _))
  · intro m hm
    rw [hlp] at hm; rw [hlk]
    rcases Nat.lt_or_ge m k with g | g
    · exfalso
      have e := hm.2 (k - 1) (by omega)
      rw [bitAt_cut_lt hlead (by omega), bitAt_cut_lt hlead (by omega)] at e
      exact hend (k - 1) (by omega) e.symm
    · exact g

theorem bb_ne2 {a b : Bool} (h : (((bb a).toNat : Int) == ((bb b).toNat : Int)) = false) : a ≠ b := by
  intro e; subst e; simp at h
theorem bb_eq2 {a b : Bool} (h : (((bb a).toNat : Int) == ((bb b).toNat : Int)) = true) : a = b := by
  cases a <;> cases b <;> simp_all [bb]

theorem norm_cv1 {l : List Bool} {w : World} {b off cap lead k : Nat} (HC : ∀ o, Held (w.alloc o) b off l) (hk : k ≤ lead) (hlead : lead < l.length) :
    ∀ o n, (convert 81 9 (.slice (some ⟨b, off, none⟩) k cap)).run Try.prog ((w.alloc o).drewN n) = .ok (.string (bs (l.take k))) ((w.alloc o).drewN n) := by
  intro o n
  have h := (((HC o).drewN n).take k).string (cap := cap)
  have e : (l.take k).length = k := by rw [List.length_take]; omega
  rw [e] at h; exact h
theorem norm_cv2 {l : List Bool} {w : World} {b off cap lead k p : Nat} (HC : ∀ o, Held (w.alloc o) b off l) (hk : k ≤ lead) (hlead : lead < l.length) (hp : p ≤ l.length - lead) :
    ∀ o n, (convert 81 9 (.slice (some ⟨b, off + k, none⟩) p (cap - k))).run Try.prog ((w.alloc o).drewN n) = .ok (.string (bs ((l.drop k).take p))) ((w.alloc o).drewN n) := by
  intro o n
  have h := ((((HC o).drewN n).drop k (by omega)).take p).string (cap := cap - k)
  have e : ((l.drop k).take p).length = p := by rw [List.length_take, List.length_drop]; omega
  rw [e] at h; exact h

set_option maxRecDepth 50000 in
set_option maxHeartbeats 800000 in
theorem normal_any (l : List Bool) (lead b off cap : Nat) (w : World) (hl : l.length ≤ 1152921504606846976) (hlead : lead < l.length) (hcap : l.length ≤ cap) (hb : b < w.heap.size) (hc : Held w b off l) :
    Calls Try.prog 100 #[.slice (some ⟨b, off, none⟩) l.length cap, .int .i64 lead] w fun e w' => Norm l lead e ∧ Below w.heap.size w w' := by
  have HC : Hid (∀ o, Held (w.alloc o) b off l) := fun o => hc.alloc hb o
  have HD : Hid (∀ o, Held (w.alloc o) b (off + lead) (l.drop lead)) := fun o => (hc.drop lead (by omega)).alloc hb o
  clear hc
  go_enter Try.func100, Try.ntmps100
  go_wp2_with (go_at_call 107; refine (period_len (l.drop lead) _ _ _ _ _ (by simp) (by omega) (by omega) (HD.out _)).mono ?_; rintro e w' ⟨⟨p, rfl, hp0, hp, HP⟩, nq, rfl⟩; have HP2 : Hid _ := HP; clear HP; rw [List.length_drop] at hp)
  go_loopw [1] (fun i wr => ∃ k nd : Nat, k ≤ lead ∧ i = .int .i64 k ∧ Hid (Strip l p lead k) ∧ wr = (w.alloc (Obj.cells #[Value.string { data := #[] }, Value.string { data := #[] }] 74)).drewN nd) (fun i _ => (intOf i).toNat)
  case atStart => exact ⟨lead, nq, by omega, rfl, fun i h1 h2 => by omega, rfl⟩
  case round =>
    obtain ⟨k, nd, hk, rfl, hf, rfl⟩ := hrel
    by_cases hk0 : 0 < k
    · have c1 := HC.out (Obj.cells #[Value.string { data := #[] }, Value.string { data := #[] }] 74) (k - 1) (by omega)
      have c2 := HC.out (Obj.cells #[Value.string { data := #[] }, Value.string { data := #[] }] 74) (k - 1 + p) (by omega)
      obtain ⟨x, hx⟩ : ∃ x, x = l.getD (k - 1) false := ⟨_, rfl⟩
      obtain ⟨y, hy⟩ : ∃ y, y = l.getD (k - 1 + p) false := ⟨_, rfl⟩
      rw [← hx] at c1
      rw [← hy] at c2
      have HX : Hid (x = l.getD (k - 1) false) := hx
      have HY : Hid (y = l.getD (k - 1 + p) false) := hy
      clear hx hy
      have hi1 : (0 : Int) < (k : Int) := by omega
      have hi2 : (k : Int) - 1 < (l.length : Int) := by omega
      have hi3 : (k : Int) - 1 + (p : Int) < (l.length : Int) := by omega
      go_wp2
      go_quiet (fail)
      go_wp2
      · go_roundw
        case rel =>
          have heq : (((bb x).toNat : Int) == ((bb y).toNat : Int)) = true := by assumption
          refine ⟨k - 1, nd + nq, by omega, by first | go_num | (congr 1; omega), ?_, by first | rfl | simp⟩
          intro i h1 h2
          rcases Nat.lt_or_ge i k with g | g
          · have : i = k - 1 := by omega
            subst this
            rw [← HX.out, ← HY.out]
            exact bb_eq2 heq
          · exact hf.out i g h2
        case measure => simp [intOf]; omega
      · have hne : (((bb x).toNat : Int) == ((bb y).toNat : Int)) = false := by assumption
        have hend : Hid (∀ j, j + 1 = k → l.getD j false ≠ l.getD (j + p) false) := by
          intro j hj
          have : j = k - 1 := by omega
          subst this
          rw [← HX.out, ← HY.out]
          exact bb_ne2 hne
        clear c1 c2 HX HY
        have kv1 := norm_cv1 (cap := cap) HC.out hk hlead
        have kv2 := norm_cv2 (cap := cap) HC.out hk hlead hp
        go_region
        go_wp2
        exact bodyPost_ret (v := .agg #[.string (bs (l.take k)), .string (bs ((l.drop k).take p))]) (by simp [results, Try.results100, go_sem]) rfl ⟨⟨_, _, rfl, strip_red hlead hk hp0 hp (by simpa using HP2.out.1) HP2.out.2.1 (by simpa using HP2.out.2.2) hf.out hend.out, by rw [List.length_take]; omega, by rw [List.length_take]; omega⟩,
          ((below_drewN ((Below.refl _ _).alloc (Nat.le_refl _) _) _).setCell (Nat.le_refl _) _).setCell (Nat.le_refl _) _⟩
    · have hkd : decide ((0 : Int) < (k : Int)) = false := by simp; omega
      have hend : Hid (∀ j, j + 1 = k → l.getD j false ≠ l.getD (j + p) false) := by
        intro j hj; omega
      go_wp2
      go_quiet (fail)
      go_wp2
      have kv1 := norm_cv1 (cap := cap) HC.out hk hlead
      have kv2 := norm_cv2 (cap := cap) HC.out hk hlead hp
      go_region
      go_wp2
      exact bodyPost_ret (v := .agg #[.string (bs (l.take k)), .string (bs ((l.drop k).take p))]) (by simp [results, Try.results100, go_sem]) rfl ⟨⟨_, _, rfl, strip_red hlead hk hp0 hp (by simpa using HP2.out.1) HP2.out.2.1 (by simpa using HP2.out.2.2) hf.out hend.out, by rw [List.length_take]; omega, by rw [List.length_take]; omega⟩,
        ((below_drewN ((Below.refl _ _).alloc (Nat.le_refl _) _) _).setCell (Nat.le_refl _) _).setCell (Nat.le_refl _) _⟩
end Go.Proofs.Ytfbkjopidjojeab

namespace Go.Proofs.Ytfbkjopidjojeab
open Go.RowKit

theorem Try.info5 : (Try.prog.info? 5).map (fun i => (i.zero, i.size, i.bytes)) = some (some (.int .u8 0), 1, 1) := by kernel_rfl

/-- Bits as cells. -/
def cellsOf (l : List Bool) : List Value := l.map fun x => .int .u8 ((bb x).toNat : Int)
theorem cellsOf_length (l : List Bool) : (cellsOf l).length = l.length := by simp [cellsOf]

theorem ownsRow_below {w w' : World} {base : Nat} {e : TypeId} {size : Nat} {v : Value} {n : Nat} {xs : List Value} (h : w.ownsRow base e size v n xs) (hb : Below w.heap.size w w') : w'.ownsRow base e size v n xs := by
  obtain ⟨h1, h2⟩ := h
  refine ⟨h1, ?_⟩
  rcases h2 with h2 | ⟨g, cap, cur, hv, hg, hh, hr⟩
  · exact .inl h2
  · have hlt : g < w.heap.size := by
      rcases Nat.lt_or_ge g w.heap.size with q | q
      · exact q
      · rw [Array.getElem?_eq_none q] at hh; cases hh
    exact .inr ⟨g, cap, cur, hv, hg, by rw [hb.block g hlt]; exact hh, hr⟩

theorem EP_map {f : Nat → Bool} {m p : Nat} {g : Bool → Bool} (h : EP f m p) : EP (fun n => g (f n)) m p := ⟨h.1, fun n hn => by simp only [h.2 n hn]⟩
theorem tab_succ (f : Nat → Bool) (k : Nat) : tab f 0 (k + 1) = tab f 0 k ++ [f k] := by
  unfold tab; rw [List.range_succ, List.map_append]; simp
theorem cellsOf_succ (f : Nat → Bool) (k : Nat) : cellsOf (tab f 0 (k + 1)) = cellsOf (tab f 0 k) ++ [.int .u8 ((bb (f k)).toNat : Int)] := by
  rw [tab_succ]; simp [cellsOf]

/-- A row of its own that holds bits. -/
theorem own_held {w : World} {base n : Nat} {v : Value} {l : List Bool} (h : w.ownsRow base 5 1 v n (cellsOf l)) (hn : 0 < n) :
    ∃ g cap, v = .slice (some ⟨g, 0, none⟩) n cap ∧ base ≤ g ∧ g < w.heap.size ∧ n ≤ cap ∧ l.length = n ∧ Held w g 0 l := by
  obtain ⟨h1, h2⟩ := h
  rcases h2 with h2 | ⟨g, cap, cur, hv, hg, hh, hc, _, hs, ht⟩
  · omega
  · have hlt : g < w.heap.size := by
      rcases Nat.lt_or_ge g w.heap.size with q | q
      · exact q
      · rw [Array.getElem?_eq_none q] at hh; cases hh
    rw [cellsOf_length, Nat.mul_one] at h1
    refine ⟨g, cap, hv, hg, hlt, hc, h1, fun i hi => ?_⟩
    have hcell := World.ownsRow.cells (w := w) (base := base) (e := 5) (size := 1) (v := v) (n := n) (xs := cellsOf l) ⟨by rw [cellsOf_length, Nat.mul_one]; exact h1, .inr ⟨g, cap, cur, hv, hg, hh, hc, by assumption, hs, ht⟩⟩ (g := g) (by rw [hv]; rfl) i (.int .u8 ((bb (l.getD i false)).toNat : Int)) (by rw [getD_lt hi]; simp [cellsOf, hi])
    have e : (⟨g, 0, none⟩ : Addr).add i = ⟨g, 0 + i, none⟩ := by unfold Addr.add; split <;> simp_all
    rw [e] at hcell; exact hcell

/-- A word that means the stream f, with its shortest parts; how long they are at most. -/
def WordIs (f : Nat → Bool) (a b : Nat) (e : Ending) : Prop := ∃ u v : List Bool, e = .returned (.agg #[.string (bs u), .string (bs v)]) ∧ NF f u v ∧ u.length ≤ a ∧ v.length ≤ b

theorem norm_tab {f : Nat → Bool} {lead p : Nat} {e : Ending} (hE : EP f lead p) (h : Norm (tab f 0 (lead + p)) lead e) : WordIs f lead p e := by
  obtain ⟨u, v, he, hn, h1, h2⟩ := h
  refine ⟨u, v, he, hn.congr fun n => ?_, h1, by rw [tab_length] at h2; omega⟩
  have hl : lead < (tab f 0 (lead + p)).length := by rw [tab_length]; have := hE.1; omega
  have a1 : (tab f 0 (lead + p)).take lead = tab f 0 lead := by
    have := tab_eq (f := f) (l := tab f 0 (lead + p)) (a := 0) (k := lead) (fun i hi => by rw [tab_getD _ _ _ _ (by omega)]; simp) (by omega)
    rw [List.drop_zero] at this; exact this.symm
  have a2 : (tab f 0 (lead + p)).drop lead = tab f lead p := by
    have := tab_eq (f := f) (l := tab f 0 (lead + p)) (a := lead) (k := p) (fun i hi => by rw [tab_getD _ _ _ _ (by omega)]; simp) (by rw [tab_length]; omega)
    rw [this, List.take_of_length_le (by rw [List.length_drop, tab_length]; omega)]
  rw [a1, a2]; exact bitAt_tab hE n

theorem normal_tab (f : Nat → Bool) (lead p n b cap : Nat) (w : World) (hE : EP f lead p) (hn : n = lead + p) (hl : n ≤ 1152921504606846976) (hcap : n ≤ cap) (hb : b < w.heap.size) (hc : Held w b 0 (tab f 0 n)) :
    Calls Try.prog 100 #[.slice (some ⟨b, 0, none⟩) n cap, .int .i64 lead] w fun e w' => WordIs f lead p e ∧ Below w.heap.size w w' := by
  subst hn
  have h := normal_any (tab f 0 (lead + p)) lead b 0 cap w (by rw [tab_length]; exact hl) (by rw [tab_length]; have := hE.1; omega) (by rw [tab_length]; exact hcap) hb hc
  rw [tab_length] at h
  exact h.mono fun e w' ⟨h1, h2⟩ => ⟨norm_tab hE h1, h2⟩

/-- One bit more at the end of the row. -/
theorem rel_app {W0 wr w1 w' : World} {B k : Nat} {r v' : Value} {f : Nat → Bool} {x : Bool} {o : Obj} (hB : B ≤ wr.heap.size) (hown : wr.ownsRow B 5 1 r k (cellsOf (tab f 0 k))) (hnx : Below B W0 wr) (hb1 : Below wr.heap.size wr w1)
    (hx : x = f k) (hown' : w'.ownsRow B 5 1 v' (k + 1) (cellsOf (tab f 0 k) ++ [.int .u8 ((bb x).toNat : Int)])) (hg : (w1.alloc o).grownBy w' r.ownBlock) :
    w'.ownsRow B 5 1 v' (k + 1) (cellsOf (tab f 0 (k + 1))) ∧ Below B W0 w' := by
  refine ⟨by rw [cellsOf_succ, ← hx]; exact hown', ?_⟩
  have h1 := (hnx.trans (hb1.mono hB)).alloc (o := o) (by have := hb1.size; omega)
  exact h1.grown hg (by have := hb1.size; simp; omega) (fun j hj => (hown.lt j hj).1)

theorem own_start (W : World) (B : Nat) (h : W.heap.size = B) : (W.alloc (.cells #[] 5)).ownsRow B 5 1 (.slice (some ⟨B, 0, none⟩) 0 0) 0 [] := by
  subst h
  exact World.ownsRow_made W #[] 0 (Nat.le_refl _) (by unfold maxLen; omega) rfl

/-- A word in a block of its own. -/
structure Boxed (w : World) (b : Nat) (x y : ByteArray) : Prop where
  c0 : w.cell? ⟨b, 0, none⟩ = some (.string x)
  c1 : w.cell? ⟨b, 1, none⟩ = some (.string y)
  f0 : w.frozen? ⟨b, 0, none⟩ = false
  f1 : w.frozen? ⟨b, 1, none⟩ = false
theorem Boxed.new (w : World) (b : Nat) (x y : ByteArray) (t : TypeId) (h : w.heap.size = b) : Boxed (w.alloc (.cells #[.string x, .string y] t)) b x y := by
  subst h; constructor <;> simp
theorem Boxed.below {w w' : World} {B b : Nat} {x y : ByteArray} (h : Boxed w b x y) (hB : Below B w w') (hb : b < B) : Boxed w' b x y :=
  ⟨by rw [hB.cell (p := ⟨b, 0, none⟩) hb]; exact h.c0, by rw [hB.cell (p := ⟨b, 1, none⟩) hb]; exact h.c1, by rw [hB.frozen (p := ⟨b, 0, none⟩) hb]; exact h.f0, by rw [hB.frozen (p := ⟨b, 1, none⟩) hb]; exact h.f1⟩
theorem Boxed.alloc {w : World} {b : Nat} {x y : ByteArray} (h : Boxed w b x y) (o : Obj) : Boxed (w.alloc o) b x y := by
  have hb : b < w.heap.size := by
    rcases Nat.lt_or_ge b w.heap.size with q | q
    · exact q
    · have := h.c0
      unfold World.cell? at this
      simp [Array.getElem?_eq_none q] at this
  exact h.below ((Below.refl w.heap.size w).alloc (Nat.le_refl _) o) hb

theorem Boxed.store {w : World} {b : Nat} {x y : ByteArray} (h : Boxed w b x y) (x' y' : ByteArray) : Boxed ((w.setCell ⟨b, 0, none⟩ (.string x')).setCell ⟨b, 1, none⟩ (.string y')) b x' y' := by
  have n1 : (⟨b, 1, none⟩ : Addr) ≠ ⟨b, 0, none⟩ := by intro e; injection e with _ e; cases e
  have n2 : (⟨b, 0, none⟩ : Addr) ≠ ⟨b, 1, none⟩ := fun e => n1 e.symm
  refine ⟨?_, ?_, ?_, ?_⟩
  · rw [World.cell?_setCell_other _ _ _ _ n1]; exact World.cell?_setCell_same _ _ _ h.c0
  · exact World.cell?_setCell_same _ _ _ (by rw [World.cell?_setCell_other _ _ _ _ n2]; exact h.c1)
  · rw [World.frozen?_setCell, World.frozen?_setCell]; exact h.f0
  · rw [World.frozen?_setCell, World.frozen?_setCell]; exact h.f1

set_option maxRecDepth 50000 in
set_option maxHeartbeats 1000000 in
theorem Not_any (u v : List Bool) (w : World) (hv0 : v ≠ []) (hu : u.length ≤ 1048576) (hv : v.length ≤ 1048576) :
    Calls Try.prog 101 #[.agg #[.string (bs u), .string (bs v)]] w fun e w' => WordIs (fun n => !bitAt u v n) u.length v.length e ∧ Below w.heap.size w w' := by
  obtain ⟨i0, hi, hz0, hz1, hz2⟩ := info_parts Try.info5
  have s1 : (bs u).size = u.length := bs_size u
  have s2 : (bs v).size = v.length := bs_size v
  go_enter Try.func101, Try.ntmps101
  go_wp2
  go_loopw [4, 5] (fun r i wr => ∃ k : Nat, k ≤ u.length + v.length ∧ i = .int .i64 k ∧ wr.ownsRow (w.heap.size + 1 + 1) 5 1 r k (cellsOf (tab (fun n => !bitAt u v n) 0 k)) ∧
      Below (w.heap.size + 1 + 1) ((w.alloc (Obj.cells #[Value.string (bs u), Value.string (bs v)] 74)).alloc (Obj.cells #[Value.string { data := #[] }, Value.string { data := #[] }] 74)) wr)
    (fun _ i _ => u.length + v.length - (intOf i).toNat)
  case atStart => exact ⟨0, by omega, rfl, own_start _ _ (by simp), (Below.refl _ _).alloc (by simp) _⟩
  case round =>
    obtain ⟨k, hk, rfl, hown, hnx⟩ := hrel
    have hsz := hnx.size
    simp at hsz
    obtain ⟨c0, c1, _, _⟩ := ((Boxed.new w _ (bs u) (bs v) _ rfl).alloc _).below hnx (by omega)
    by_cases hlt : k < u.length + v.length
    · go_wp2_with (first
        | (go_at_call 70; refine (bit_any u v k _ hv0 (by omega) (by omega) (by omega)).mono ?_; rintro e w1 ⟨rfl, hb1⟩; have hown1 := ownsRow_below hown hb1; have hz1' := hb1.size)
        | (go_at_call 99; refine (digit_any _ _).mono ?_; rintro e w2 ⟨rfl, hw2⟩; subst w2)
        | (at_builtin; refine wpList_append_own _ rfl _ _ 81 rfl (w.heap.size + 1 + 1) 5 i0 (.int .u8 0) 1 1 Try.under81 hi hz0 hz1 hz2 rfl (by decide) _ _ _ rfl (hown1.alloc _) ⟨w1.heap.size, 0, none⟩ 1 1 [.int .u8 ((bb (!bitAt u v k)).toNat : Int)] rfl rfl (cell_one_new _ _ _) (by intro x hx; simp at hx; subst hx; rfl) (by unfold maxLen; omega) (by omega) (by simp; omega) ?_; intro v' w' hown' hgrow _))
      have R := rel_app (by omega) hown hnx hb1 rfl hown' hgrow
      clear hown' hgrow hown hnx hown1 hb1 c0 c1
      go_wp2
      go_roundw
      case rel => exact ⟨k + 1, by omega, by go_num, R.1, R.2⟩
      case measure => simp [intOf]; omega
    · have : k = u.length + v.length := by omega
      obtain ⟨g, cap, hr, hg1, hg2, hcap, _, hheld⟩ := own_held hown (by have := List.length_pos_iff.2 hv0; omega)
      rw [hr]
      clear hown
      subst this
      have hE : EP (fun n => !bitAt u v n) u.length v.length := EP_map (EP_bitAt u v hv0)
      have hbx := (Boxed.new (w.alloc (Obj.cells #[Value.string (bs u), Value.string (bs v)] 74)) (w.heap.size + 1) ⟨#[]⟩ ⟨#[]⟩ 74 (by simp)).below hnx (by omega)
      go_wp2_with (go_at_call 100; refine (normal_tab (fun n => !bitAt u v n) u.length v.length _ g cap _ hE rfl (by omega) hcap hg2 hheld).mono ?_; rintro e w1 ⟨⟨x, y, rfl, hn, hx, hy⟩, hb1⟩; obtain ⟨d0, d1, e0, e1⟩ := hbx.below hb1 (by omega); have hz := hb1.size)
      have hst := (hbx.below hb1 (by omega)).store (bs x) (bs y)
      have q0 := hst.c0
      have q1 := hst.c1
      refine bodyPost_ret (v := .agg #[.string (bs x), .string (bs y)]) (by simp [results, Try.results101, go_sem, q0, q1]) rfl ⟨⟨x, y, rfl, hn, hx, hy⟩, ?_⟩
      exact (((((Below.refl w.heap.size w).alloc (Nat.le_refl _) _).alloc (by simp) _).trans (hnx.mono (by omega))).trans (hb1.mono (by omega))).setCell (Nat.le_succ _) _ |>.setCell (Nat.le_succ _) _
end Go.Proofs.Ytfbkjopidjojeab

namespace Go.Proofs.Ytfbkjopidjojeab

/-- How many of the first n bits are ones. -/
def ones (f : Nat → Bool) : Nat → Nat
  | 0 => 0
  | n + 1 => ones f n + (f n).toNat

theorem ones_le (f : Nat → Bool) (n : Nat) : ones f n ≤ n := by
  induction n with
  | zero => exact Nat.le_refl _
  | succ n ih => unfold ones; cases f n <;> simp <;> omega
theorem ones_mono (f : Nat → Bool) {m n : Nat} (h : m ≤ n) : ones f m ≤ ones f n := by
  induction n with
  | zero => have : m = 0 := by omega
            subst this; exact Nat.le_refl _
  | succ n ih =>
    rcases Nat.lt_or_ge n m with g | g
    · have : m = n + 1 := by omega
      subst this; exact Nat.le_refl _
    · have := ih g; rw [ones]; omega
theorem ones_congr {f g : Nat → Bool} {n : Nat} (h : ∀ i, i < n → f i = g i) : ones f n = ones g n := by
  induction n with
  | zero => rfl
  | succ n ih => rw [ones, ones, ih (fun i hi => h i (by omega)), h n (by omega)]
theorem ones_add (f : Nat → Bool) (n m : Nat) : ones f (n + m) = ones f n + ones (fun i => f (n + i)) m := by
  induction m with
  | zero => rfl
  | succ m ih => rw [← Nat.add_assoc, ones, ih, ones]; omega
/-- One turn more is as many ones more. -/
theorem ones_turn {f : Nat → Bool} {m p : Nat} (h : EP f m p) : ∀ n, m ≤ n → ones f (n + p) = ones f n + ones (fun i => f (m + i)) p := by
  intro n hn
  obtain ⟨d, rfl⟩ : ∃ d, n = m + d := ⟨n - m, by omega⟩
  clear hn
  induction d with
  | zero => exact ones_add f m p
  | succ d ih =>
    have e : m + (d + 1) + p = (m + d + p) + 1 := by omega
    have e2 : m + (d + 1) = (m + d) + 1 := by omega
    rw [e, e2, ones, ih, h.2 (m + d) (by omega), ones]; omega
theorem ones_turns {f : Nat → Bool} {m p : Nat} (h : EP f m p) (k : Nat) : ∀ n, m ≤ n → ones f (n + k * p) = ones f n + k * ones (fun i => f (m + i)) p := by
  induction k with
  | zero => intro n _; simp
  | succ k ih =>
    intro n hn
    have e : n + (k + 1) * p = (n + k * p) + p := by rw [Nat.add_mul, Nat.one_mul]; omega
    rw [e, ones_turn h _ (by omega), ih n hn, Nat.add_mul, Nat.one_mul]; omega
theorem ones_list (l : List Bool) : ∀ k, k ≤ l.length → ones (fun i => l.getD i false) k = (l.take k).count true := by
  intro k
  induction k with
  | zero => intro _; simp [ones]
  | succ k ih =>
    intro hk
    rw [ones, ih (by omega), List.take_succ_eq_append_getElem (by omega), List.count_append, getD_lt (by omega : k < l.length)]
    cases l[k] <;> simp
theorem ones_lead (u v : List Bool) : ones (bitAt u v) u.length = u.count true := by
  have h := ones_list u u.length (Nat.le_refl _)
  rw [List.take_length] at h
  rw [← h]
  apply ones_congr
  intro i hi
  rw [bitAt_lead hi, getD_lt hi]
theorem ones_round (u v : List Bool) : ones (fun i => bitAt u v (u.length + i)) v.length = v.count true := by
  have h := ones_list v v.length (Nat.le_refl _)
  rw [List.take_length] at h
  rw [← h]
  apply ones_congr
  intro i hi
  rw [bitAt_round hi, getD_lt hi]

theorem EP_or {f g : Nat → Bool} {m m' p q : Nat} (hf : EP f m p) (hg : EP g m' q) : EP (fun n => f n || g n) (max m m') (Nat.lcm p q) := by
  refine ⟨Nat.lcm_pos hf.1 hg.1, fun n hn => ?_⟩
  obtain ⟨a, ha⟩ := Nat.dvd_lcm_left p q
  obtain ⟨b, hb⟩ := Nat.dvd_lcm_right p q
  have e1 := hf.mul a n (by omega)
  have e2 := hg.mul b n (by omega)
  rw [Nat.mul_comm] at ha hb
  rw [← ha] at e1; rw [← hb] at e2
  simp only [e1, e2]

/-- The bits of g in the places of the ones of f. -/
def onS (f g : Nat → Bool) (n : Nat) : Bool := f n && g (ones f n)

theorem EP_on_none {f g : Nat → Bool} {m p : Nat} (hf : EP f m p) (h0 : ones (fun i => f (m + i)) p = 0) : EP (onS f g) m p := by
  have hz : ∀ n, m ≤ n → f n = false := by
    intro n hn
    have e := ones_turn hf n hn
    rw [h0] at e
    have a1 := ones_mono f (show n + 1 ≤ n + p by have := hf.1; omega)
    rw [ones] at a1
    cases hfn : f n
    · rfl
    · rw [hfn] at a1; simp at a1; omega
  refine ⟨hf.1, fun n hn => ?_⟩
  unfold onS
  rw [hz n hn, hz (n + p) (by omega)]; rfl
theorem EP_on {f g : Nat → Bool} {m p a q c k t : Nat} (hf : EP f m p) (hg : EP g a q) (hc : ones (fun i => f (m + i)) p = c) (hk : a ≤ ones f m + k * c) (ht : 0 < t) (hd : q ∣ t * c) : EP (onS f g) (m + k * p) (t * p) := by
  refine ⟨Nat.mul_pos ht hf.1, fun n hn => ?_⟩
  unfold onS
  rw [hf.mul t n (by omega), ones_turns hf t n (by omega), hc]
  have h1 : a ≤ ones f n := by
    have := ones_mono f hn
    rw [ones_turns hf k m (Nat.le_refl _), hc] at this; omega
  obtain ⟨b, hb⟩ := hd
  have := hg.mul b (ones f n) h1
  rw [Nat.mul_comm q b] at hb
  rw [hb, this]
end Go.Proofs.Ytfbkjopidjojeab

namespace Go.Proofs.Ytfbkjopidjojeab
open Go.RowKit

theorem own_start2 (W : World) (B b : Nat) (h : W.heap.size = b) (hB : B ≤ b) : (W.alloc (.cells #[] 5)).ownsRow B 5 1 (.slice (some ⟨b, 0, none⟩) 0 0) 0 [] := by
  subst h
  exact World.ownsRow_made W #[] 0 hB (by unfold maxLen; omega) rfl

theorem below_two {a b c : World} (h : Below a.heap.size a b) (k : Below b.heap.size b c) : Below a.heap.size a c := h.trans (k.mono h.size)

/-- The world behind two boxes and a place for the result. -/
def S3 (w : World) (u v x y : List Bool) : World := ((w.alloc (Obj.cells #[Value.string (bs u), Value.string (bs v)] 74)).alloc (Obj.cells #[Value.string (bs x), Value.string (bs y)] 74)).alloc (Obj.cells #[Value.string ⟨#[]⟩, Value.string ⟨#[]⟩] 74)
theorem S3_size (w : World) (u v x y : List Bool) : (S3 w u v x y).heap.size = w.heap.size + 1 + 1 + 1 := by simp [S3]
theorem S3_below (w : World) (u v x y : List Bool) : Below w.heap.size w (S3 w u v x y) := (((Below.refl w.heap.size w).alloc (Nat.le_refl _) _).alloc (by simp) _).alloc (by simp; omega) _
theorem S3_a (w : World) (u v x y : List Bool) : Boxed (S3 w u v x y) w.heap.size (bs u) (bs v) := ((Boxed.new w _ (bs u) (bs v) _ rfl).alloc _).alloc _
theorem S3_b (w : World) (u v x y : List Bool) : Boxed (S3 w u v x y) (w.heap.size + 1) (bs x) (bs y) := (Boxed.new _ _ (bs x) (bs y) _ (by simp)).alloc _
theorem S3_r (w : World) (u v x y : List Bool) : Boxed (S3 w u v x y) (w.heap.size + 1 + 1) ⟨#[]⟩ ⟨#[]⟩ := Boxed.new _ _ _ _ _ (by simp)

/-- What the loops of Either and On keep. -/
def Gath (w : World) (u v x y : List Bool) (f : Nat → Bool) (k : Nat) (r : Value) (wr : World) : Prop :=
  wr.ownsRow (w.heap.size + 1 + 1 + 1) 5 1 r k (cellsOf (tab f 0 k)) ∧ Below (w.heap.size + 1 + 1 + 1) (S3 w u v x y) wr

theorem Gath.size {w wr : World} {u v x y : List Bool} {f : Nat → Bool} {k : Nat} {r : Value} (h : Gath w u v x y f k r wr) : w.heap.size + 1 + 1 + 1 ≤ wr.heap.size := by
  have := h.2.size; rw [S3_size] at this; exact this

theorem gath_app {w wr w1 w' : World} {u v x y : List Bool} {f : Nat → Bool} {k : Nat} {r v' : Value} {z : Bool} {o : Obj} (h : Gath w u v x y f k r wr) (hb1 : Below wr.heap.size wr w1)
    (hx : z = f k) (hown' : w'.ownsRow (w.heap.size + 1 + 1 + 1) 5 1 v' (k + 1) (cellsOf (tab f 0 k) ++ [.int .u8 ((bb z).toNat : Int)])) (hg : (w1.alloc o).grownBy w' r.ownBlock) :
    Gath w u v x y f (k + 1) v' w' := rel_app h.size h.1 h.2 hb1 hx hown' hg

set_option maxRecDepth 50000 in
set_option maxHeartbeats 1000000 in
theorem Either_any (u v x y : List Bool) (w : World) (hv0 : v ≠ []) (hy0 : y ≠ []) (hu : u.length ≤ 1048576) (hv : v.length ≤ 1048576) (hx : x.length ≤ 1048576) (hy : y.length ≤ 1048576) :
    Calls Try.prog 81 #[.agg #[.string (bs u), .string (bs v)], .agg #[.string (bs x), .string (bs y)]] w fun e w' => WordIs (fun n => bitAt u v n || bitAt x y n) (max u.length x.length) (Nat.lcm v.length y.length) e ∧ Below w.heap.size w w' := by
  obtain ⟨i0, hi, hz0, hz1, hz2⟩ := info_parts Try.info5
  have hE := EP_or (EP_bitAt u v hv0) (EP_bitAt x y hy0)
  have hP0 := hE.1
  have hP : Nat.lcm v.length y.length ≤ 1048576 * 1048576 := Nat.le_trans (lcm_le_mul _ _) (Nat.mul_le_mul hv hy)
  have hM : max u.length x.length ≤ 1048576 := by omega
  have s1 : (bs u).size = u.length := bs_size u
  have s2 : (bs v).size = v.length := bs_size v
  have s3 : (bs x).size = x.length := bs_size x
  have s4 : (bs y).size = y.length := bs_size y
  obtain ⟨L, hL⟩ : ∃ L, max u.length x.length = L := ⟨_, rfl⟩
  obtain ⟨P, hPe⟩ : ∃ P, Nat.lcm v.length y.length = P := ⟨_, rfl⟩
  rw [hL, hPe] at hE
  rw [hPe] at hP0 hP
  rw [hL] at hM
  have hA := S3_a w u v x y
  have hB := S3_b w u v x y
  go_enter Try.func81, Try.ntmps81
  go_wp2_with (first
    | (go_at_call 91; refine (bothLead_any (bs u) (bs v) (bs x) (bs y) (S3 w u v x y) (by omega) (by omega)).mono ?_; rintro e w1 ⟨rfl, hb1⟩; rw [S3_size] at hb1; have hz1' := hb1.size; obtain ⟨a0, a1, _, _⟩ := hA.below hb1 (by omega); obtain ⟨b0, b1, _, _⟩ := hB.below hb1 (by omega))
    | (go_at_call 92; refine (bothRound_any (bs u) (bs v) (bs x) (bs y) w1 (by omega) (by omega)).mono ?_; rintro e w2 ⟨rfl, hb2⟩))
  have hb12 : Below (w.heap.size + 1 + 1 + 1) (S3 w u v x y) w2 := hb1.trans (hb2.mono (by rw [S3_size] at hz1'; omega))
  have hz2' := hb12.size
  rw [S3_size] at hz2'
  clear hb1 hb2 hz1' a0 a1 b0 b1
  go_loopw [7, 8] (fun r i wr => ∃ k : Nat, k ≤ L + P ∧ i = .int .i64 k ∧ Gath w u v x y (fun n => bitAt u v n || bitAt x y n) k r wr) (fun _ i _ => L + P - (intOf i).toNat)
  case atStart => exact ⟨0, by omega, rfl, own_start2 _ _ _ rfl (by omega), hb12.alloc (by omega) _⟩
  case round =>
    obtain ⟨k, hk, rfl, hG⟩ := hrel
    have hsz := hG.size
    obtain ⟨a0, a1, _, _⟩ := hA.below hG.2 (by omega)
    obtain ⟨b0, b1, _, _⟩ := hB.below hG.2 (by omega)
    have hown := hG.1
    by_cases hlt : k < L + P
    · cases hbit : bitAt u v k
      · go_wp2_with (first
          | (go_at_call_of 70 (bs u); refine (bit_any u v k wr hv0 (by omega) (by omega) (by omega)).mono ?_; rintro e w1 ⟨rfl, hb1⟩; have hz1' := hb1.size; obtain ⟨b0', b1', _, _⟩ := (hB.below hG.2 (by omega)).below hb1 (by omega))
          | (go_at_call_of 70 (bs x); refine (bit_any x y k w1 hy0 (by omega) (by omega) (by omega)).mono ?_; rintro e w2 ⟨rfl, hb2⟩; have hz2' := hb2.size; have hown2 := ownsRow_below hown (below_two hb1 hb2))
          | (go_at_call 99; refine (digit_any _ _).mono ?_; rintro e w3 ⟨rfl, hw3⟩; subst w3)
          | (at_builtin; refine wpList_append_own _ rfl _ _ 81 rfl (w.heap.size + 1 + 1 + 1) 5 i0 (.int .u8 0) 1 1 Try.under81 hi hz0 hz1 hz2 rfl (by decide) _ _ _ rfl (hown2.alloc _) ⟨w2.heap.size, 0, none⟩ 1 1 [.int .u8 ((bb (bitAt x y k)).toNat : Int)] rfl rfl (cell_one_new _ _ _) (by intro x hx; simp at hx; subst hx; rfl) (by unfold maxLen; omega) (by omega) (by simp; omega) ?_; intro v' w' hown' hgrow _))
        have R := gath_app hG (below_two hb1 hb2) (by simp only [hbit, Bool.false_or]) hown' hgrow
        clear hown' hgrow hown hG hown2 hb1 hb2 a0 a1 b0 b1 b0' b1'
        go_wp2
        go_roundw
        case rel => exact ⟨k + 1, by omega, by go_num, R⟩
        case measure => simp [intOf]; omega
      · go_wp2_with (first
          | (go_at_call_of 70 (bs u); refine (bit_any u v k wr hv0 (by omega) (by omega) (by omega)).mono ?_; rintro e w1 ⟨rfl, hb1⟩; have hz1' := hb1.size; have hown1 := ownsRow_below hown hb1)
          | (go_at_call 99; refine (digit_any _ _).mono ?_; rintro e w3 ⟨rfl, hw3⟩; subst w3)
          | (at_builtin; refine wpList_append_own _ rfl _ _ 81 rfl (w.heap.size + 1 + 1 + 1) 5 i0 (.int .u8 0) 1 1 Try.under81 hi hz0 hz1 hz2 rfl (by decide) _ _ _ rfl (hown1.alloc _) ⟨w1.heap.size, 0, none⟩ 1 1 [.int .u8 ((bb true).toNat : Int)] rfl rfl (cell_one_new _ _ _) (by intro x hx; simp at hx; subst hx; rfl) (by unfold maxLen; omega) (by omega) (by simp; omega) ?_; intro v' w' hown' hgrow _))
        have R := gath_app hG hb1 (by simp only [hbit, Bool.true_or]) hown' hgrow
        clear hown' hgrow hown hG hown1 hb1 a0 a1 b0 b1
        go_wp2
        go_roundw
        case rel => exact ⟨k + 1, by omega, by go_num, R⟩
        case measure => simp [intOf]; omega
    · have hke : k = L + P := by omega
      obtain ⟨g, cap, hr, hg1, hg2, hcap, _, hheld⟩ := own_held hown (by omega)
      rw [hr]
      clear hown
      subst hke
      have hbx := (S3_r w u v x y).below hG.2 (by omega)
      go_wp2_with (go_at_call 100; refine (normal_tab (fun n => bitAt u v n || bitAt x y n) L P _ g cap wr hE rfl (by omega) hcap hg2 hheld).mono ?_; rintro e w1 ⟨⟨p, q, rfl, hn, hp, hq⟩, hb1⟩; obtain ⟨d0, d1, e0, e1⟩ := hbx.below hb1 (by omega); have hz := hb1.size)
      have hst := (hbx.below hb1 (by omega)).store (bs p) (bs q)
      have q0 := hst.c0
      have q1 := hst.c1
      refine bodyPost_ret (v := .agg #[.string (bs p), .string (bs q)]) (by simp [results, Try.results81, go_sem, q0, q1]) rfl ⟨?_, ?_⟩
      · rw [hL, hPe]; exact ⟨p, q, rfl, hn, hp, hq⟩
      · exact (((((S3_below w u v x y).trans (hG.2.mono (by omega))).trans (hb1.mono (by omega))).setCell (by show w.heap.size ≤ w.heap.size + 1 + 1; omega) _).setCell (by show w.heap.size ≤ w.heap.size + 1 + 1; omega) _)
end Go.Proofs.Ytfbkjopidjojeab

namespace Go.Proofs.Ytfbkjopidjojeab
open Go.RowKit

/-- Where the rounds of a word on a word begin. -/
def OnL (u v x : List Bool) (L : Nat) : Prop := ∃ k, L = u.length + k * v.length ∧ (0 < v.count true → x.length ≤ u.count true + k * v.count true) ∧ (v.count true = 0 → k = 0)
/-- How long they are. -/
def OnP (v y : List Bool) (P : Nat) : Prop := P = if v.count true = 0 then v.length else Nat.lcm (v.count true) y.length / v.count true * v.length

theorem on_EP {u v x y : List Bool} {L P : Nat} (hv0 : v ≠ []) (hy0 : y ≠ []) (hL : OnL u v x L) (hP : OnP v y P) : EP (onS (bitAt u v) (bitAt x y)) L P := by
  obtain ⟨k, rfl, h1, h0⟩ := hL
  have hP' : P = if v.count true = 0 then v.length else Nat.lcm (v.count true) y.length / v.count true * v.length := hP
  have hf := EP_bitAt u v hv0
  have hg := EP_bitAt x y hy0
  have hr := ones_round u v
  by_cases hc : v.count true = 0
  · rw [if_pos hc] at hP'
    subst hP'
    rw [h0 hc, Nat.zero_mul, Nat.add_zero]
    exact EP_on_none hf (by rw [hr, hc])
  · rw [if_neg hc] at hP'
    subst hP'
    have hc0 : 0 < v.count true := Nat.pos_of_ne_zero hc
    have hy1 : 0 < y.length := List.length_pos_iff.2 hy0
    have ht : Nat.lcm (v.count true) y.length / v.count true * v.count true = Nat.lcm (v.count true) y.length := Nat.div_mul_cancel (Nat.dvd_lcm_left _ _)
    apply EP_on hf hg hr
    · rw [ones_lead]; exact h1 hc0
    · exact Nat.div_pos (Nat.le_of_dvd (Nat.lcm_pos hc0 hy1) (Nat.dvd_lcm_left _ _)) hc0
    · rw [ht]; exact Nat.dvd_lcm_right _ _

theorem onLead_b (u v x y : List Bool) (w : World) (hu : u.length ≤ 1048576) (hv : v.length ≤ 1048576) (hx : x.length ≤ 1048576) :
    Calls Try.prog 97 #[.agg #[.string (bs u), .string (bs v)], .agg #[.string (bs x), .string (bs y)]] w fun e w' =>
      (∃ L : Nat, e = .returned (.int .i64 L) ∧ OnL u v x L ∧ L ≤ 2199023255552) ∧ Below w.heap.size w w' := by
  refine (onLead_any (bs u) (bs v) (bs x) (bs y) w (by rw [bs_size]; exact hu) (by rw [bs_size]; exact hv) (by rw [bs_size]; exact hx)).mono ?_
  rintro e w' ⟨⟨k, rfl, hk, h1, h0⟩, hb⟩
  rw [cn_bs, cn_bs, bs_size] at h1
  rw [cn_bs] at h0
  rw [bs_size] at hk
  refine ⟨⟨u.length + k * v.length, by rw [bs_size, bs_size], ⟨k, rfl, fun h => ?_, fun h => h0 (by rw [h]; rfl)⟩, ?_⟩, hb⟩
  · have := h1 (by omega)
    have e : ((u.count true + k * v.count true : Nat) : Int) = (u.count true : Int) + k * v.count true := by simp
    omega
  · have : k * v.length ≤ 1048576 * 1048576 := Nat.mul_le_mul (by omega) hv
    omega

theorem onRound_b (u v x y : List Bool) (w : World) (hv : v.length ≤ 1048576) (hy : y.length ≤ 1048576) (hv0 : v ≠ []) (hy0 : y ≠ []) :
    Calls Try.prog 98 #[.agg #[.string (bs u), .string (bs v)], .agg #[.string (bs x), .string (bs y)]] w fun e w' =>
      (∃ P : Nat, e = .returned (.int .i64 P) ∧ OnP v y P ∧ 0 < P ∧ P ≤ 1099511627776) ∧ Below w.heap.size w w' := by
  refine (onRound_any (bs u) (bs v) (bs x) (bs y) w (by rw [bs_size]; exact hv) (by rw [bs_size]; exact hy) (v.count true) (cn_bs v)).mono ?_
  rintro e w' ⟨rfl, hb⟩
  have hP : OnP v y (if v.count true = 0 then v.length else Nat.lcm (v.count true) y.length / v.count true * v.length) := rfl
  have hE := on_EP (u := []) (x := []) hv0 hy0 ⟨0, rfl, fun _ => by simp, fun _ => rfl⟩ hP
  refine ⟨⟨_, by rw [bs_size, bs_size], hP, hE.1, ?_⟩, hb⟩
  by_cases hc : v.count true = 0
  · rw [if_pos hc]; omega
  · rw [if_neg hc]
    have : Nat.lcm (v.count true) y.length / v.count true ≤ y.length := by
      apply Nat.le_trans (Nat.div_le_div_right (lcm_le_mul _ _))
      rw [Nat.mul_div_cancel_left _ (Nat.pos_of_ne_zero hc)]; exact Nat.le_refl _
    exact Nat.le_trans (Nat.mul_le_mul this hv) (by omega)

/-- A word on a word: what stream, how long at most. -/
def OnIs (u v x y : List Bool) (e : Ending) : Prop := WordIs (onS (bitAt u v) (bitAt x y)) 2199023255552 1099511627776 e

set_option maxRecDepth 50000 in
set_option maxHeartbeats 1000000 in
theorem On_any (u v x y : List Bool) (w : World) (hv0 : v ≠ []) (hy0 : y ≠ []) (hu : u.length ≤ 1048576) (hv : v.length ≤ 1048576) (hx : x.length ≤ 1048576) (hy : y.length ≤ 1048576) :
    Calls Try.prog 80 #[.agg #[.string (bs u), .string (bs v)], .agg #[.string (bs x), .string (bs y)]] w fun e w' => OnIs u v x y e ∧ Below w.heap.size w w' := by
  obtain ⟨i0, hi, hz0, hz1, hz2⟩ := info_parts Try.info5
  have hA := S3_a w u v x y
  have hB := S3_b w u v x y
  go_enter Try.func80, Try.ntmps80
  go_wp2_with (first
    | (go_at_call 97; refine (onLead_b u v x y (S3 w u v x y) hu hv hx).mono ?_; rintro e w1 ⟨⟨L, rfl, hL, hLb⟩, hb1⟩; rw [S3_size] at hb1; have hz1' := hb1.size; obtain ⟨a0, a1, _, _⟩ := hA.below hb1 (by omega); obtain ⟨b0, b1, _, _⟩ := hB.below hb1 (by omega))
    | (go_at_call 98; refine (onRound_b u v x y w1 hv hy hv0 hy0).mono ?_; rintro e w2 ⟨⟨P, rfl, hP, hP0, hPb⟩, hb2⟩))
  have hb12 : Below (w.heap.size + 1 + 1 + 1) (S3 w u v x y) w2 := hb1.trans (hb2.mono (by rw [S3_size] at hz1'; omega))
  have hz2' := hb12.size
  rw [S3_size] at hz2'
  clear hb1 hb2 hz1' a0 a1 b0 b1
  have hE := on_EP hv0 hy0 hL hP
  go_loopw [7, 8, 9] (fun r nx i wr => ∃ k N : Nat, k ≤ L + P ∧ i = .int .i64 k ∧ nx = .int .i64 N ∧ Hid (N = ones (bitAt u v) k) ∧ N ≤ k ∧ Gath w u v x y (onS (bitAt u v) (bitAt x y)) k r wr) (fun _ _ i _ => L + P - (intOf i).toNat)
  case atStart => exact ⟨0, 0, by omega, rfl, rfl, rfl, by omega, own_start2 _ _ _ rfl (by omega), hb12.alloc (by omega) _⟩
  case round =>
    obtain ⟨k, N, hk, rfl, rfl, HN, hN, hG⟩ := hrel
    have hsz := hG.size
    obtain ⟨a0, a1, _, _⟩ := hA.below hG.2 (by omega)
    obtain ⟨b0, b1, _, _⟩ := hB.below hG.2 (by omega)
    have hown := hG.1
    by_cases hlt : k < L + P
    · cases hbit : bitAt u v k
      · go_wp2_with (first
          | (go_at_call_of 70 (bs u); refine (bit_any u v k wr hv0 (by omega) (by omega) (by omega)).mono ?_; rintro e w1 ⟨rfl, hb1⟩; have hz1' := hb1.size; have hown1 := ownsRow_below hown hb1)
          | (go_at_call 99; refine (digit_any _ _).mono ?_; rintro e w3 ⟨rfl, hw3⟩; subst w3)
          | (at_builtin; refine wpList_append_own _ rfl _ _ 81 rfl (w.heap.size + 1 + 1 + 1) 5 i0 (.int .u8 0) 1 1 Try.under81 hi hz0 hz1 hz2 rfl (by decide) _ _ _ rfl (hown1.alloc _) ⟨w1.heap.size, 0, none⟩ 1 1 [.int .u8 ((bb false).toNat : Int)] rfl rfl (cell_one_new _ _ _) (by intro x hx; simp at hx; subst hx; rfl) (by unfold maxLen; omega) (by omega) (by simp; omega) ?_; intro v' w' hown' hgrow _))
        have R := gath_app hG hb1 (by simp only [onS, hbit, Bool.false_and]) hown' hgrow
        have HN1 : Hid (N = ones (bitAt u v) (k + 1)) := by show _ = _; rw [ones, hbit, ← HN.out]; rfl
        clear hown' hgrow hown hG hown1 hb1 a0 a1 b0 b1
        go_wp2
        go_roundw
        case rel => exact ⟨k + 1, N, by omega, by go_num, rfl, HN1, by omega, R⟩
        case measure => simp [intOf]; omega
      · go_wp2_with (first
          | (go_at_call_of 70 (bs u); refine (bit_any u v k wr hv0 (by omega) (by omega) (by omega)).mono ?_; rintro e w1 ⟨rfl, hb1⟩; have hz1' := hb1.size; obtain ⟨b0', b1', _, _⟩ := (hB.below hG.2 (by omega)).below hb1 (by omega))
          | (go_at_call_of 70 (bs x); refine (bit_any x y N w1 hy0 (by omega) (by omega) (by omega)).mono ?_; rintro e w2 ⟨rfl, hb2⟩; have hz2' := hb2.size; have hown2 := ownsRow_below hown (below_two hb1 hb2))
          | (go_at_call 99; refine (digit_any _ _).mono ?_; rintro e w3 ⟨rfl, hw3⟩; subst w3)
          | (at_builtin; refine wpList_append_own _ rfl _ _ 81 rfl (w.heap.size + 1 + 1 + 1) 5 i0 (.int .u8 0) 1 1 Try.under81 hi hz0 hz1 hz2 rfl (by decide) _ _ _ rfl (hown2.alloc _) ⟨w2.heap.size, 0, none⟩ 1 1 [.int .u8 ((bb (bitAt x y N)).toNat : Int)] rfl rfl (cell_one_new _ _ _) (by intro x hx; simp at hx; subst hx; rfl) (by unfold maxLen; omega) (by omega) (by simp; omega) ?_; intro v' w' hown' hgrow _))
        have R := gath_app hG (below_two hb1 hb2) (by simp only [onS, hbit, Bool.true_and, HN.out]) hown' hgrow
        have HN1 : Hid (N + 1 = ones (bitAt u v) (k + 1)) := by show _ = _; rw [ones, hbit, ← HN.out]; rfl
        clear hown' hgrow hown hG hown2 hb1 hb2 a0 a1 b0 b1 b0' b1'
        go_wp2
        go_roundw
        case rel => exact ⟨k + 1, N + 1, by omega, by go_num, by go_num, HN1, by omega, R⟩
        case measure => simp [intOf]; omega
    · have hke : k = L + P := by omega
      obtain ⟨g, cap, hr, hg1, hg2, hcap, _, hheld⟩ := own_held hown (by omega)
      rw [hr]
      clear hown
      subst hke
      have hbx := (S3_r w u v x y).below hG.2 (by omega)
      go_wp2_with (go_at_call 100; refine (normal_tab (onS (bitAt u v) (bitAt x y)) L P _ g cap wr hE rfl (by omega) hcap hg2 hheld).mono ?_; rintro e w1 ⟨⟨p, q, rfl, hn, hp, hq⟩, hb1⟩; obtain ⟨d0, d1, e0, e1⟩ := hbx.below hb1 (by omega); have hz := hb1.size)
      have hst := (hbx.below hb1 (by omega)).store (bs p) (bs q)
      have q0 := hst.c0
      have q1 := hst.c1
      refine bodyPost_ret (v := .agg #[.string (bs p), .string (bs q)]) (by simp [results, Try.results80, go_sem, q0, q1]) rfl ⟨?_, ?_⟩
      · exact ⟨p, q, rfl, hn, by omega, by omega⟩
      · exact (((((S3_below w u v x y).trans (hG.2.mono (by omega))).trans (hb1.mono (by omega))).setCell (by show w.heap.size ≤ w.heap.size + 1 + 1; omega) _).setCell (by show w.heap.size ≤ w.heap.size + 1 + 1; omega) _)
end Go.Proofs.Ytfbkjopidjojeab

namespace Go.Proofs.Ytfbkjopidjojeab

/-- The ones of f among the first n bits less those of g. -/
def dif (f g : Nat → Bool) (n : Nat) : Int := (ones f n : Int) - (ones g n : Int)
/-- The least difference up to n. -/
def mn (f g : Nat → Bool) : Nat → Int
  | 0 => 0
  | n + 1 => min (mn f g n) (dif f g (n + 1))
/-- The greatest difference up to n. -/
def mx (f g : Nat → Bool) : Nat → Int
  | 0 => 0
  | n + 1 => max (mx f g n) (dif f g (n + 1))

theorem dif_zero (f g : Nat → Bool) : dif f g 0 = 0 := rfl
theorem dif_succ (f g : Nat → Bool) (n : Nat) : dif f g (n + 1) = dif f g n + (f n).toNat - (g n).toNat := by
  unfold dif; rw [ones, ones]; omega
theorem dif_bd (f g : Nat → Bool) (n : Nat) : -(n : Int) ≤ dif f g n ∧ dif f g n ≤ n := by
  unfold dif; have := ones_le f n; have := ones_le g n; omega
theorem mn_le (f g : Nat → Bool) (n : Nat) : ∀ i, i ≤ n → mn f g n ≤ dif f g i := by
  induction n with
  | zero => intro i hi; have : i = 0 := by omega
            subst this; exact Int.le_refl _
  | succ n ih =>
    intro i hi
    rw [mn]
    rcases Nat.lt_or_ge n i with h | h
    · have : i = n + 1 := by omega
      subst this; omega
    · have := ih i h; omega
theorem mn_at (f g : Nat → Bool) (n : Nat) : ∃ i, i ≤ n ∧ mn f g n = dif f g i := by
  induction n with
  | zero => exact ⟨0, Nat.le_refl _, rfl⟩
  | succ n ih =>
    obtain ⟨i, hi, e⟩ := ih
    rw [mn]
    rcases Int.lt_or_le (dif f g (n + 1)) (mn f g n) with h | h
    · exact ⟨n + 1, Nat.le_refl _, by omega⟩
    · exact ⟨i, by omega, by omega⟩
theorem le_mx (f g : Nat → Bool) (n : Nat) : ∀ i, i ≤ n → dif f g i ≤ mx f g n := by
  induction n with
  | zero => intro i hi; have : i = 0 := by omega
            subst this; exact Int.le_refl _
  | succ n ih =>
    intro i hi
    rw [mx]
    rcases Nat.lt_or_ge n i with h | h
    · have : i = n + 1 := by omega
      subst this; omega
    · have := ih i h; omega
theorem mx_at (f g : Nat → Bool) (n : Nat) : ∃ i, i ≤ n ∧ mx f g n = dif f g i := by
  induction n with
  | zero => exact ⟨0, Nat.le_refl _, rfl⟩
  | succ n ih =>
    obtain ⟨i, hi, e⟩ := ih
    rw [mx]
    rcases Int.lt_or_le (mx f g n) (dif f g (n + 1)) with h | h
    · exact ⟨n + 1, Nat.le_refl _, by omega⟩
    · exact ⟨i, by omega, by omega⟩

section
variable {D : Nat → Int} {M P : Nat} {δ : Int}
theorem D_mul (hD : ∀ n, M ≤ n → D (n + P) = D n + δ) (k : Nat) : ∀ n, M ≤ n → D (n + k * P) = D n + k * δ := by
  induction k with
  | zero => intro n _; simp
  | succ k ih =>
    intro n hn
    have e : n + (k + 1) * P = (n + k * P) + P := by rw [Nat.add_mul, Nat.one_mul]; omega
    have e2 : ((k + 1 : Nat) : Int) * δ = k * δ + δ := by rw [Int.natCast_add, Int.add_mul]; simp
    rw [e, hD _ (by omega), ih n hn, e2]; omega
theorem D_split (hP : 0 < P) (n : Nat) (h : M ≤ n) : ∃ i k, M ≤ i ∧ i < M + P ∧ n = i + k * P := by
  refine ⟨M + (n - M) % P, (n - M) / P, by omega, by have := Nat.mod_lt (n - M) hP; omega, ?_⟩
  have := Nat.mod_add_div (n - M) P
  rw [Nat.mul_comm] at this; omega
theorem D_nonneg (hP : 0 < P) (hD : ∀ n, M ≤ n → D (n + P) = D n + δ) (hδ : 0 ≤ δ) (h : ∀ n, n ≤ M + P → 0 ≤ D n) : ∀ n, 0 ≤ D n := by
  intro n
  rcases Nat.lt_or_ge n M with g | g
  · exact h n (by omega)
  · obtain ⟨i, k, h1, h2, rfl⟩ := D_split hP n g
    rw [D_mul hD k i h1]
    have := h i (by omega)
    have : 0 ≤ (k : Int) * δ := Int.mul_nonneg (by omega) hδ
    omega
theorem D_le (hP : 0 < P) (hD : ∀ n, M ≤ n → D (n + P) = D n + δ) (hδ : δ = 0) {B : Int} (h : ∀ n, n ≤ M + P → D n ≤ B) : ∀ n, D n ≤ B := by
  intro n
  rcases Nat.lt_or_ge n M with g | g
  · exact h n (by omega)
  · obtain ⟨i, k, h1, h2, rfl⟩ := D_split hP n g
    rw [D_mul hD k i h1, hδ, Int.mul_zero]
    have := h i (by omega)
    omega
theorem D_up (hD : ∀ n, M ≤ n → D (n + P) = D n + δ) (h : ∀ n, 0 ≤ D n) : 0 ≤ δ := by
  rcases Int.lt_or_le δ 0 with g | g
  · exfalso
    have h1 := h (M + ((D M).toNat + 1) * P)
    rw [D_mul hD _ M (Nat.le_refl _)] at h1
    have h0 := h M
    have : (((D M).toNat + 1 : Nat) : Int) * δ ≤ (((D M).toNat + 1 : Nat) : Int) * (-1) := Int.mul_le_mul_of_nonneg_left (by omega) (by omega)
    omega
  · exact g
theorem D_down (hD : ∀ n, M ≤ n → D (n + P) = D n + δ) {B : Int} (h0 : ∀ n, 0 ≤ D n) (h : ∀ n, D n ≤ B) : δ ≤ 0 := by
  rcases Int.lt_or_le 0 δ with g | g
  · exfalso
    have h1 := h (M + (B.toNat + 1) * P)
    rw [D_mul hD _ M (Nat.le_refl _)] at h1
    have := h0 M
    have : ((B.toNat + 1 : Nat) : Int) * 1 ≤ ((B.toNat + 1 : Nat) : Int) * δ := Int.mul_le_mul_of_nonneg_left (by omega) (by omega)
    omega
  · exact g
end

/-- The drift of two words: above 0 if the rate of the first is the greater one. -/
def dri (v y : List Bool) : Int := (v.count true : Int) * (y.length : Int) - (y.count true : Int) * (v.length : Int)

/-- One common turn. -/
theorem dif_turn {u v x y : List Bool} (hv0 : v ≠ []) (hy0 : y ≠ []) {P : Nat} (h1 : v.length ∣ P) (h2 : y.length ∣ P) (hP : 0 < P) :
    ∃ δ : Int, (∀ n, max u.length x.length ≤ n → dif (bitAt u v) (bitAt x y) (n + P) = dif (bitAt u v) (bitAt x y) n + δ) ∧ (0 ≤ dri v y ↔ 0 ≤ δ) ∧ (dri v y = 0 ↔ δ = 0) := by
  obtain ⟨a, ha⟩ := h1
  obtain ⟨b, hb⟩ := h2
  rw [Nat.mul_comm] at ha hb
  have hv1 : 0 < v.length := List.length_pos_iff.2 hv0
  have hy1 : 0 < y.length := List.length_pos_iff.2 hy0
  refine ⟨(a : Int) * (v.count true : Int) - (b : Int) * (y.count true : Int), ?_, ?_⟩
  · intro n hn
    have e1 := ones_turns (EP_bitAt u v hv0) a n (by omega)
    have e2 := ones_turns (EP_bitAt x y hy0) b n (by omega)
    rw [← ha, ones_round] at e1
    rw [← hb, ones_round] at e2
    unfold dif
    rw [e1, e2, Int.natCast_add, Int.natCast_add, Int.natCast_mul, Int.natCast_mul]; omega
  · have key : ((a : Int) * (v.count true : Int) - (b : Int) * (y.count true : Int)) * ((v.length : Int) * (y.length : Int)) = (P : Int) * dri v y := by
      have ha' : (P : Int) = (a : Int) * (v.length : Int) := by rw [ha, Int.natCast_mul]
      have hb' : (P : Int) = (b : Int) * (y.length : Int) := by rw [hb, Int.natCast_mul]
      unfold dri
      rw [Int.sub_mul, Int.mul_sub]
      congr 1
      · rw [ha']; ac_rfl
      · rw [hb']; ac_rfl
    have hK : 0 < (v.length : Int) * (y.length : Int) := Int.mul_pos (by omega) (by omega)
    have hPp : 0 < (P : Int) := by omega
    generalize (a : Int) * (v.count true : Int) - (b : Int) * (y.count true : Int) = δ at key
    generalize (v.length : Int) * (y.length : Int) = K at key hK
    generalize dri v y = d at key
    constructor
    · constructor
      · intro h
        rcases Int.lt_or_le δ 0 with g | g
        · exfalso
          have h3 : 0 ≤ (P : Int) * d := Int.mul_nonneg (by omega) h
          have h4 : δ * K < 0 := Int.mul_neg_of_neg_of_pos g hK
          omega
        · exact g
      · intro h
        rcases Int.lt_or_le d 0 with g | g
        · exfalso
          have h3 : 0 ≤ δ * K := Int.mul_nonneg h (by omega)
          have h4 : (P : Int) * d < 0 := Int.mul_neg_of_pos_of_neg hPp g
          omega
        · exact g
    · constructor
      · intro h
        rw [h, Int.mul_zero] at key
        rcases Int.mul_eq_zero.1 key with g | g
        · exact g
        · omega
      · intro h
        rw [h, Int.zero_mul] at key
        rcases Int.mul_eq_zero.1 key.symm with g | g
        · omega
        · exact g

/-- f is never behind g. -/
def AheadS (f g : Nat → Bool) : Prop := ∀ n, 0 ≤ dif f g n
/-- f adapts to g. -/
def AdaptsS (f g : Nat → Bool) : Prop := AheadS f g ∧ ∃ B, ∀ n, dif f g n ≤ B
/-- s is the greatest difference. -/
def Most (f g : Nat → Bool) (s : Int) : Prop := (∀ n, dif f g n ≤ s) ∧ ∃ n, dif f g n = s

theorem ahead_iff {u v x y : List Bool} (hv0 : v ≠ []) (hy0 : y ≠ []) {P : Nat} (h1 : v.length ∣ P) (h2 : y.length ∣ P) (hP : 0 < P) :
    (0 ≤ dri v y ∧ 0 ≤ mn (bitAt u v) (bitAt x y) (max u.length x.length + P)) ↔ AheadS (bitAt u v) (bitAt x y) := by
  obtain ⟨δ, hD, hs, _⟩ := dif_turn (u := u) (x := x) hv0 hy0 h1 h2 hP
  constructor
  · rintro ⟨ha, hm⟩
    exact D_nonneg hP hD (hs.1 ha) fun n hn => by have := mn_le (bitAt u v) (bitAt x y) _ n hn; omega
  · intro h
    refine ⟨hs.2 (D_up hD h), ?_⟩
    obtain ⟨i, _, e⟩ := mn_at (bitAt u v) (bitAt x y) (max u.length x.length + P)
    rw [e]; exact h i
theorem adapts_iff {u v x y : List Bool} (hv0 : v ≠ []) (hy0 : y ≠ []) {P : Nat} (h1 : v.length ∣ P) (h2 : y.length ∣ P) (hP : 0 < P) :
    (dri v y = 0 ∧ 0 ≤ mn (bitAt u v) (bitAt x y) (max u.length x.length + P)) ↔ AdaptsS (bitAt u v) (bitAt x y) := by
  obtain ⟨δ, hD, hs, hz⟩ := dif_turn (u := u) (x := x) hv0 hy0 h1 h2 hP
  constructor
  · rintro ⟨ha, hm⟩
    refine ⟨(ahead_iff hv0 hy0 h1 h2 hP).1 ⟨by omega, hm⟩, mx (bitAt u v) (bitAt x y) (max u.length x.length + P), ?_⟩
    exact D_le hP hD (hz.1 ha) fun n hn => le_mx _ _ _ n hn
  · rintro ⟨ha, B, hB⟩
    have h3 := D_up hD ha
    have h4 := D_down hD ha hB
    exact ⟨hz.2 (by omega), ((ahead_iff hv0 hy0 h1 h2 hP).2 ha).2⟩
theorem most_of {u v x y : List Bool} (hv0 : v ≠ []) (hy0 : y ≠ []) {P : Nat} (h1 : v.length ∣ P) (h2 : y.length ∣ P) (hP : 0 < P) (h : AdaptsS (bitAt u v) (bitAt x y)) :
    Most (bitAt u v) (bitAt x y) (mx (bitAt u v) (bitAt x y) (max u.length x.length + P)) := by
  obtain ⟨δ, hD, hs, hz⟩ := dif_turn (u := u) (x := x) hv0 hy0 h1 h2 hP
  obtain ⟨i, _, e⟩ := mx_at (bitAt u v) (bitAt x y) (max u.length x.length + P)
  exact ⟨D_le hP hD (hz.1 ((adapts_iff hv0 hy0 h1 h2 hP).2 h).1) fun n hn => le_mx _ _ _ n hn, i, e.symm⟩
theorem Most.unique {f g : Nat → Bool} {s t : Int} (h : Most f g s) (k : Most f g t) : s = t := by
  obtain ⟨i, e⟩ := h.2
  obtain ⟨j, e'⟩ := k.2
  have := h.1 j; have := k.1 i; omega
end Go.Proofs.Ytfbkjopidjojeab

namespace Go.Proofs.Ytfbkjopidjojeab
open Go.RowKit

/-- The world behind two boxes. -/
def S2 (w : World) (u v x y : List Bool) : World := (w.alloc (Obj.cells #[Value.string (bs u), Value.string (bs v)] 74)).alloc (Obj.cells #[Value.string (bs x), Value.string (bs y)] 74)
theorem S2_size (w : World) (u v x y : List Bool) : (S2 w u v x y).heap.size = w.heap.size + 1 + 1 := by simp [S2]
theorem S2_below (w : World) (u v x y : List Bool) : Below w.heap.size w (S2 w u v x y) := ((Below.refl w.heap.size w).alloc (Nat.le_refl _) _).alloc (by simp) _
theorem S2_a (w : World) (u v x y : List Bool) : Boxed (S2 w u v x y) w.heap.size (bs u) (bs v) := (Boxed.new w _ (bs u) (bs v) _ rfl).alloc _
theorem S2_b (w : World) (u v x y : List Bool) : Boxed (S2 w u v x y) (w.heap.size + 1) (bs x) (bs y) := Boxed.new _ _ (bs x) (bs y) _ (by simp)

theorem below_undrew {W w1 : World} (h : Below W.drew.heap.size W.drew w1) : Below W.heap.size W w1 := ⟨h.os, h.tape, h.output, h.size, h.block⟩

set_option maxRecDepth 50000 in
set_option maxHeartbeats 1000000 in
theorem gaps_any (u v x y : List Bool) (w : World) (hv0 : v ≠ []) (hy0 : y ≠ []) (hu : u.length ≤ 1048576) (hv : v.length ≤ 1048576) (hx : x.length ≤ 1048576) (hy : y.length ≤ 1048576) :
    Calls Try.prog 75 #[.agg #[.string (bs u), .string (bs v)], .agg #[.string (bs x), .string (bs y)]] w fun e w' =>
      e = .returned (.tuple #[.int .i64 (mn (bitAt u v) (bitAt x y) (max u.length x.length + Nat.lcm v.length y.length)), .int .i64 (mx (bitAt u v) (bitAt x y) (max u.length x.length + Nat.lcm v.length y.length))]) ∧ Below w.heap.size w w' := by
  have hP : Nat.lcm v.length y.length ≤ 1048576 * 1048576 := Nat.le_trans (lcm_le_mul _ _) (Nat.mul_le_mul hv hy)
  have hM : max u.length x.length ≤ 1048576 := by omega
  have s1 : (bs u).size = u.length := bs_size u
  have s2 : (bs v).size = v.length := bs_size v
  have s3 : (bs x).size = x.length := bs_size x
  have s4 : (bs y).size = y.length := bs_size y
  obtain ⟨L, hL⟩ : ∃ L, max u.length x.length = L := ⟨_, rfl⟩
  obtain ⟨P, hPe⟩ : ∃ P, Nat.lcm v.length y.length = P := ⟨_, rfl⟩
  rw [hPe] at hP
  rw [hL] at hM
  rw [hL, hPe]
  have hA := S2_a w u v x y
  have hB := S2_b w u v x y
  go_enter Try.func75, Try.ntmps75
  go_wp2
  go_region_held3 (fun w' => w'.cell? ⟨w.heap.size, 0, none⟩ = some (.string (bs u)) ∧ w'.cell? ⟨w.heap.size, 1, none⟩ = some (.string (bs v)) ∧ w'.cell? ⟨w.heap.size + 1, 0, none⟩ = some (.string (bs x)) ∧ w'.cell? ⟨w.heap.size + 1, 1, none⟩ = some (.string (bs y))) (go_keep)
    (first
      | (go_at_call 91; refine (bothLead_any (bs u) (bs v) (bs x) (bs y) _ (by omega) (by omega)).mono ?_; rintro e w1 ⟨rfl, hb1⟩; have hb1' := below_undrew (W := S2 w u v x y) hb1; rw [S2_size] at hb1'; have hz1' := hb1'.size; obtain ⟨a0, a1, _, _⟩ := hA.below hb1' (by omega); obtain ⟨b0, b1, _, _⟩ := hB.below hb1' (by omega))
      | (go_at_call 92; refine (bothRound_any (bs u) (bs v) (bs x) (bs y) _ (by omega) (by omega)).mono ?_; rintro e w2 ⟨rfl, hb2⟩; have hb2' := hb1'.trans (hb2.mono (by rw [S2_size] at hz1'; omega)); obtain ⟨a2, a3, _, _⟩ := hA.below hb2' (by omega); obtain ⟨b2, b3, _, _⟩ := hB.below hb2' (by omega)))
  clear a0 a1 b0 b1 a2 a3 b2 b3 hb1 hb2 hb1' hz1'
  have hz2' := hb2'.size
  rw [S2_size] at hz2'
  go_wp2
  go_loopw [7, 8, 9, 10] (fun l m g i wr => ∃ (k : Nat) (a b c : Int), k ≤ L + P ∧ i = .int .i64 k ∧ l = .int .i64 a ∧ m = .int .i64 b ∧ g = .int .i64 c ∧ Hid (a = mn (bitAt u v) (bitAt x y) k ∧ b = mx (bitAt u v) (bitAt x y) k ∧ c = dif (bitAt u v) (bitAt x y) k) ∧ -(k : Int) ≤ c ∧ c ≤ k ∧ Below (w.heap.size + 1 + 1) (S2 w u v x y) wr) (fun _ _ _ i _ => L + P - (intOf i).toNat)
  case atStart => exact ⟨0, 0, 0, 0, by omega, rfl, rfl, rfl, rfl, ⟨rfl, rfl, rfl⟩, by omega, by omega, hb2'⟩
  case round =>
    obtain ⟨k, a, b, c, hk, rfl, rfl, rfl, rfl, HH, hc1, hc2, hG⟩ := hrel
    have hsz := hG.size
    rw [S2_size] at hsz
    obtain ⟨a0, a1, _, _⟩ := hA.below hG (by omega)
    obtain ⟨b0, b1, _, _⟩ := hB.below hG (by omega)
    by_cases hlt : k < L + P
    · have hd := dif_succ (bitAt u v) (bitAt x y) k
      have HD : Hid (dif (bitAt u v) (bitAt x y) (k + 1) = dif (bitAt u v) (bitAt x y) k + (bitAt u v k).toNat - (bitAt x y k).toNat) := hd
      clear hd
      cases hbit : bitAt u v k <;> cases hbit2 : bitAt x y k
      all_goals
        go_wp2_with (first
          | (go_at_call_of 70 (bs u); refine (bit_any u v k wr hv0 (by omega) (by omega) (by omega)).mono ?_; rintro e w1 ⟨rfl, hb1⟩; have hz1' := hb1.size; obtain ⟨b0', b1', _, _⟩ := (hB.below hG (by omega)).below hb1 (by omega))
          | (go_at_call_of 70 (bs x); refine (bit_any x y k w1 hy0 (by omega) (by omega) (by omega)).mono ?_; rintro e w2 ⟨rfl, hb2⟩; have hG2 := hG.trans ((below_two hb1 hb2).mono (by omega))))
      all_goals
        go_roundw
        case rel =>
          refine ⟨k + 1, _, _, _, by omega, by go_num, rfl, rfl, rfl, ?_, by omega, by omega, hG2⟩
          obtain ⟨ea, eb, ec⟩ := HH.out
          have ed := HD.out
          rw [hbit, hbit2] at ed
          simp at ed
          refine ⟨?_, ?_, ?_⟩
          · rw [mn, ed, ← ea, ← ec]; omega
          · rw [mx, ed, ← eb, ← ec]; omega
          · rw [ed, ← ec]
        case measure => simp [intOf]; omega
    · have hke : k = L + P := by omega
      obtain ⟨ea, eb, _⟩ := HH.out
      subst hke
      have EA : Hid (a = mn (bitAt u v) (bitAt x y) (L + P)) := ea
      have EB : Hid (b = mx (bitAt u v) (bitAt x y) (L + P)) := eb
      clear ea eb HH
      go_wp2
      go_ret2
      exact ⟨by rw [← EA.out, ← EB.out]; rfl, (S2_below w u v x y).trans (hG.mono (by omega))⟩

/-- What Ahead gives. -/
def AheadIs (f g : Nat → Bool) (e : Ending) : Prop := ∃ r : Bool, e = .returned (.bool r) ∧ Hid (r = true ↔ AheadS f g)

theorem drift_b (u v x y : List Bool) (w : World) (hv : v.length ≤ 1048576) (hy : y.length ≤ 1048576) :
    Calls Try.prog 74 #[.agg #[.string (bs u), .string (bs v)], .agg #[.string (bs x), .string (bs y)]] w fun e w' => e = .returned (.int .i64 (dri v y)) ∧ Below w.heap.size w w' := by
  refine (drift_any (bs u) (bs v) (bs x) (bs y) w (by rw [bs_size]; exact hv) (by rw [bs_size]; exact hy)).mono ?_
  rintro e w' ⟨rfl, hb⟩
  exact ⟨ret_int (by rw [cn_bs, cn_bs, bs_size, bs_size]; rfl), hb⟩

/-- What Size gives. -/
def SizeIs (f g : Nat → Bool) (e : Ending) : Prop := ∃ (s : Int) (r : Bool), e = .returned (.tuple #[.int .i64 s, .bool r]) ∧ Hid ((r = true ↔ AdaptsS f g) ∧ (r = true → Most f g s) ∧ (r = false → s = 0))

set_option maxRecDepth 50000 in
set_option maxHeartbeats 400000 in
theorem Size_any (u v x y : List Bool) (w : World) (hv0 : v ≠ []) (hy0 : y ≠ []) (hu : u.length ≤ 1048576) (hv : v.length ≤ 1048576) (hx : x.length ≤ 1048576) (hy : y.length ≤ 1048576) :
    Calls Try.prog 55 #[.agg #[.string (bs u), .string (bs v)], .agg #[.string (bs x), .string (bs y)]] w fun e w' => SizeIs (bitAt u v) (bitAt x y) e ∧ Below w.heap.size w w' := by
  have hiff : Hid _ := adapts_iff (u := u) (x := x) hv0 hy0 (Nat.dvd_lcm_left v.length y.length) (Nat.dvd_lcm_right v.length y.length) (Nat.lcm_pos (List.length_pos_iff.2 hv0) (List.length_pos_iff.2 hy0))
  have hmost : Hid _ := most_of (u := u) (x := x) hv0 hy0 (Nat.dvd_lcm_left v.length y.length) (Nat.dvd_lcm_right v.length y.length) (Nat.lcm_pos (List.length_pos_iff.2 hv0) (List.length_pos_iff.2 hy0))
  obtain ⟨D, hD⟩ : ∃ D, dri v y = D := ⟨_, rfl⟩
  obtain ⟨A, hA'⟩ : ∃ A, mn (bitAt u v) (bitAt x y) (max u.length x.length + Nat.lcm v.length y.length) = A := ⟨_, rfl⟩
  obtain ⟨S, hS'⟩ : ∃ S, mx (bitAt u v) (bitAt x y) (max u.length x.length + Nat.lcm v.length y.length) = S := ⟨_, rfl⟩
  rw [hD, hA'] at hiff
  rw [hS'] at hmost
  have hA := S2_a w u v x y
  have hB := S2_b w u v x y
  go_enter Try.func55, Try.ntmps55
  go_wp2_with (first
    | (go_at_call 74; refine (drift_b u v x y (S2 w u v x y) hv hy).mono ?_; rintro e w1 ⟨rfl, hb1⟩; rw [S2_size] at hb1; have hz1' := hb1.size; obtain ⟨a0, a1, _, _⟩ := hA.below hb1 (by omega); obtain ⟨b0, b1, _, _⟩ := hB.below hb1 (by omega))
    | (go_at_call 75; refine (gaps_any u v x y w1 hv0 hy0 hu hv hx hy).mono ?_; rintro e w2 ⟨rfl, hb2⟩))
  · have hd : (D != 0) = true := by assumption
    go_ret2
    have hno : ¬ AdaptsS (bitAt u v) (bitAt x y) := fun h => by have := (hiff.out.2 h).1; simp [this] at hd
    exact ⟨⟨0, false, rfl, ⟨⟨fun h => by simp at h, fun h => absurd h hno⟩, fun h => by simp at h, fun _ => rfl⟩⟩, (S2_below w u v x y).trans (hb1.mono (by omega))⟩
  · have hd : A < 0 := by assumption
    go_ret2
    have hno : ¬ AdaptsS (bitAt u v) (bitAt x y) := fun h => by have := (hiff.out.2 h).2; omega
    exact ⟨⟨0, false, rfl, ⟨⟨fun h => by simp at h, fun h => absurd h hno⟩, fun h => by simp at h, fun _ => rfl⟩⟩, ((S2_below w u v x y).trans (hb1.mono (by omega))).trans (hb2.mono (by rw [S2_size] at hz1'; omega))⟩
  · have hd : (D != 0) = false := by assumption
    go_ret2
    have hyes : AdaptsS (bitAt u v) (bitAt x y) := hiff.out.1 ⟨by simpa using hd, by omega⟩
    exact ⟨⟨S, true, rfl, ⟨⟨fun _ => hyes, fun _ => rfl⟩, fun _ => hmost.out hyes, fun h => by simp at h⟩⟩, ((S2_below w u v x y).trans (hb1.mono (by omega))).trans (hb2.mono (by rw [S2_size] at hz1'; omega))⟩
end Go.Proofs.Ytfbkjopidjojeab

namespace Go.Proofs.Ytfbkjopidjojeab

/-- The two parts of a text. -/
def pU (l : List UInt8) : List UInt8 := l.take (foN l)
def pV (l : List UInt8) : List UInt8 := (l.drop (foN l + 1)).take (l.length - foN l - 2)
/-- Is the text a word? -/
def okW (l : List UInt8) : Bool := decide (foN l + 3 ≤ l.length) && (l.getD (l.length - 1) 0 == 41) && isP (pU l) && isP (pV l)
/-- Bytes as bits. -/
def toB (l : List UInt8) : List Bool := l.map fun c => c.toNat == 49
theorem toB_length (l : List UInt8) : (toB l).length = l.length := by simp [toB]
theorem toB_bb {l : List UInt8} (h : allBits l = true) : (toB l).map bb = l := by
  unfold toB
  rw [List.map_map]
  apply List.ext_getElem
  · simp
  · intro i h1 h2
    simp only [List.getElem_map, Function.comp]
    unfold allBits at h
    rw [List.all_eq_true] at h
    have := h l[i] (List.getElem_mem _)
    simp at this
    rcases this with e | e
    · rw [e]; apply UInt8.toNat_inj.1; rw [e]; decide
    · rw [e]; apply UInt8.toNat_inj.1; rw [e]; decide
theorem bs_toB {s : ByteArray} (h : allBits s.data.toList = true) : bs (toB s.data.toList) = s := by
  unfold bs; rw [toB_bb h]
theorem toB_map (l : List Bool) : toB (l.map bb) = l := by
  unfold toB; rw [List.map_map]
  conv => rhs; rw [← List.map_id l]
  apply List.map_congr_left
  intro x _
  cases x <;> rfl
theorem allBits_map (l : List Bool) : allBits (l.map bb) = true := by
  unfold allBits; rw [List.all_eq_true]
  intro c hc
  rw [List.mem_map] at hc
  obtain ⟨x, _, rfl⟩ := hc
  cases x <;> rfl

/-- A word's text as bytes. -/
def txtL (u v : List Bool) : List UInt8 := u.map bb ++ 40 :: (v.map bb ++ [41])
theorem txtL_length (u v : List Bool) : (txtL u v).length = u.length + v.length + 2 := by simp [txtL]; omega
theorem foN_txt (u v : List Bool) : foN (txtL u v) = u.length := by
  unfold foN txtL
  rw [List.findIdx_append]
  have h0 : ∀ x ∈ u.map bb, ¬ ((fun c : UInt8 => c.toNat == 40) x = true) := by
    intro x hx
    rw [List.mem_map] at hx
    obtain ⟨y, _, rfl⟩ := hx
    cases y <;> decide
  have h1 : List.findIdx (fun c : UInt8 => c.toNat == 40) (u.map bb) = (u.map bb).length := List.findIdx_eq_length_of_false (fun x hx => by have := h0 x hx; simpa using this)
  rw [h1, if_neg (Nat.lt_irrefl _), List.findIdx_cons]
  simp
theorem pU_txt (u v : List Bool) : pU (txtL u v) = u.map bb := by
  unfold pU; rw [foN_txt]; unfold txtL
  rw [List.take_left' (by simp)]
theorem pV_txt (u v : List Bool) : pV (txtL u v) = v.map bb := by
  unfold pV; rw [foN_txt, txtL_length]; unfold txtL
  have e : List.drop (u.length + 1) (u.map bb ++ 40 :: (v.map bb ++ [41])) = v.map bb ++ [41] := by
    have : u.map bb ++ 40 :: (v.map bb ++ [41]) = (u.map bb ++ [40]) ++ (v.map bb ++ [41]) := by simp
    rw [this, List.drop_left' (by simp)]
  rw [e, List.take_left' (by simp; omega)]
theorem okW_txt (u v : List Bool) (hu : u.length ≤ 12) (hv : v.length ≤ 12) (hv0 : v ≠ []) : okW (txtL u v) = true := by
  have hl : 0 < v.length := List.length_pos_iff.2 hv0
  unfold okW
  rw [pU_txt, pV_txt, foN_txt, txtL_length]
  have e : (txtL u v).getD (u.length + v.length + 2 - 1) 0 = 41 := by
    have : txtL u v = (u.map bb ++ 40 :: v.map bb) ++ [41] := by simp [txtL]
    rw [this, List.getD_eq_getElem?_getD, List.getElem?_append_right (by simp; omega)]
    have : u.length + v.length + 2 - 1 - (u.map bb ++ 40 :: v.map bb).length = 0 := by simp; omega
    rw [this]; rfl
  rw [e]
  simp [isP, allBits_map, hu, hv]; omega
theorem okW_len {l : List UInt8} (h : okW l = true) : l.length ≤ 26 ∧ (toB (pU l)).length ≤ 12 ∧ (toB (pV l)).length ≤ 12 ∧ toB (pV l) ≠ [] := by
  unfold okW isP at h
  simp at h
  obtain ⟨⟨⟨h1, _⟩, h2, _⟩, h3, _⟩ := h
  rw [toB_length, toB_length]
  have a1 : (pU l).length = foN l := by unfold pU; rw [List.length_take]; omega
  have a2 : (pV l).length = l.length - foN l - 2 := by unfold pV; rw [List.length_take, List.length_drop]; omega
  refine ⟨by omega, h2, h3, ?_⟩
  intro e
  have := toB_length (pV l)
  rw [e] at this; simp at this; omega
end Go.Proofs.Ytfbkjopidjojeab

namespace Go.Proofs.Ytfbkjopidjojeab
open Go.RowKit

/-- What Parse gives. -/
def ParseIs (l : List UInt8) (e : Ending) : Prop :=
  (okW l = false ∧ e = .returned (.tuple #[.agg #[.string ⟨#[]⟩, .string ⟨#[]⟩], .bool false])) ∨
  (okW l = true ∧ ∃ u v : List Bool, e = .returned (.tuple #[.agg #[.string (bs u), .string (bs v)], .bool true]) ∧ NF (bitAt (toB (pU l)) (toB (pV l))) u v ∧ u.length ≤ 12 ∧ v.length ≤ 12)

theorem okW_eq {s : ByteArray} {k : Nat} (hk : foN s.data.toList = k) : okW s.data.toList = (decide (k + 3 ≤ s.size) && (s.data.toList.getD (s.size - 1) 0 == 41) && isP (s.data.toList.take k) && isP ((s.data.toList.drop (k + 1)).take (s.size - 1 - (k + 1)))) := by
  unfold okW pU pV
  have hl : s.data.toList.length = s.size := by simp
  have e : s.size - k - 2 = s.size - 1 - (k + 1) := by omega
  rw [hk, hl, e]
theorem ext_toList (s : ByteArray) (a b : Nat) : (s.extract a b).data.toList = (s.data.toList.drop a).take (b - a) := by simp
theorem ext_nil {s : ByteArray} {a b : Nat} (h : (s.extract a b).toList = []) (hb : b ≤ s.size) : b ≤ a := by
  rw [ByteArray.toList_eq, ext_toList] at h
  have := congrArg List.length h
  rw [List.length_take, List.length_drop] at this
  simp at this
  omega
theorem last_get {s : ByteArray} (h : s.size - 1 < s.size) : s.data.toList.getD (s.size - 1) 0 = s[s.size - 1] := by
  rw [List.getD_eq_getElem?_getD, List.getElem?_eq_getElem (by simpa using h), Option.getD_some, get_toList s _ h]
theorem no_end {s : ByteArray} {k : Nat} (hk : foN s.data.toList = k) (h0 : s.size - 1 < s.size) (h : (((s[s.size - 1].toNat : Nat) : Int) != 41) = true) : okW s.data.toList = false := by
  have h2 : ¬ s[s.size - 1] = 41 := by
    intro e
    rw [e] at h
    exact absurd h (by decide)
  rw [okW_eq hk, last_get h0]
  simp [h2]
theorem no_round {s : ByteArray} {k : Nat} (hk : foN s.data.toList = k) (h : (s.extract (k + 1) (s.size - 1)).toList = []) : okW s.data.toList = false := by
  have := ext_nil h (by omega)
  rw [okW_eq hk, show decide (k + 3 ≤ s.size) = false by simp; omega]
  rfl
theorem no_short {s : ByteArray} {k : Nat} (hk : foN s.data.toList = k) (h : s.size - 1 ≤ k) : okW s.data.toList = false := by
  rw [okW_eq hk, show decide (k + 3 ≤ s.size) = false by simp; omega]
  rfl
theorem no_lead {s : ByteArray} {k : Nat} (hk : foN s.data.toList = k) (h : ¬ isP (s.data.toList.take k) = true) : okW s.data.toList = false := by
  rw [okW_eq hk, show isP (s.data.toList.take k) = false by simpa using h]; simp
theorem no_part {s : ByteArray} {k : Nat} (hk : foN s.data.toList = k) (h : (s.extract (k + 1) (s.size - 1)).toList.isEmpty = true ∨ (!isP ((s.data.toList.drop (k + 1)).take (s.size - 1 - (k + 1)))) = true) (h2 : ¬ (s.extract (k + 1) (s.size - 1)).toList = []) : okW s.data.toList = false := by
  rcases h with h | h
  · exact absurd (List.isEmpty_iff.1 h) h2
  · rw [okW_eq hk, show isP ((s.data.toList.drop (k + 1)).take (s.size - 1 - (k + 1))) = false by simpa using h]; simp
theorem okW_yes {s : ByteArray} {k : Nat} (hk : foN s.data.toList = k) (h0 : s.size - 1 < s.size) (h3 : (((s[s.size - 1].toNat : Nat) : Int) != 41) = false) (h2 : ¬ (s.extract (k + 1) (s.size - 1)).toList = []) (h1 : isP (s.data.toList.take k) = true) (h : (!isP ((s.data.toList.drop (k + 1)).take (s.size - 1 - (k + 1)))) = false) : okW s.data.toList = true ∧ k + 3 ≤ s.size := by
  have h4 : s[s.size - 1] = 41 := by
    apply UInt8.toNat_inj.1
    simp at h3
    have : (s[s.size - 1].toNat : Int) = 41 := h3
    have e : (41 : UInt8).toNat = 41 := rfl
    omega
  have h5 : k + 3 ≤ s.size := by
    rcases Nat.lt_or_ge (k + 1) (s.size - 1) with g | g
    · omega
    · exfalso; apply h2
      rw [ByteArray.toList_eq, ext_toList, show s.size - 1 - (k + 1) = 0 by omega, List.take_zero]
  refine ⟨?_, h5⟩
  rw [okW_eq hk, last_get h0, h4, h1, show isP ((s.data.toList.drop (k + 1)).take (s.size - 1 - (k + 1))) = true by simpa using h]
  simp [h5]

theorem isP_bits {l : List UInt8} (h : isP l = true) : allBits l = true ∧ l.length ≤ 12 := by
  unfold isP at h; simp at h; exact ⟨h.2, h.1⟩

/-- What '[]byte(s)' lays, of bits. -/
theorem row_held (W : World) (t : ByteArray) (l : List Bool) (cap b : Nat) (m : Nat × Nat) (ht : t = bs l) (hb : W.heap.size = b) : Held (W.alloc (.cells (bytesRow t cap) 5 m)).drew b 0 l := by
  subst hb
  intro i hi
  have e : (W.alloc (.cells (bytesRow t cap) 5 m)).drew.cell? ⟨W.heap.size, 0 + i, none⟩ = (bytesRow t cap)[0 + i]? := World.cell?_alloc_mark W _ _ _ _
  rw [e, ht]
  unfold bytesRow
  rw [Nat.zero_add, Array.getElem?_append_left (by simp [bs]; exact hi)]
  simp [bs, hi]

theorem normal_txt (s : ByteArray) (k N cap b m : Nat) (r : Nat × Nat) (W : World) (hb : W.heap.size = b) (h26 : s.size ≤ 26) (hk3 : k + 3 ≤ s.size) (h1 : isP (s.data.toList.take k) = true) (h2 : isP ((s.data.toList.drop (k + 1)).take (s.size - 1 - (k + 1))) = true) (hN : N = s.size - 2) (hm : m = k) (hcap : N ≤ cap) :
    Calls Try.prog 100 #[.slice (some ⟨b, 0, none⟩) N cap, .int .i64 m] (W.alloc (.cells (bytesRow (s.extract 0 k ++ s.extract (k + 1) (s.size - 1)) cap) 5 r)).drew fun e w' =>
      WordIs (bitAt (toB (s.data.toList.take k)) (toB ((s.data.toList.drop (k + 1)).take (s.size - 1 - (k + 1))))) 12 12 e ∧ Below (W.alloc (.cells (bytesRow (s.extract 0 k ++ s.extract (k + 1) (s.size - 1)) cap) 5 r)).drew.heap.size (W.alloc (.cells (bytesRow (s.extract 0 k ++ s.extract (k + 1) (s.size - 1)) cap) 5 r)).drew w' := by
  subst hm
  have hl : s.data.toList.length = s.size := by simp
  have hp : (toB (s.data.toList.take m)).length = m := by rw [toB_length, List.length_take]; omega
  have hq : (toB ((s.data.toList.drop (m + 1)).take (s.size - 1 - (m + 1)))).length = s.size - 2 - m := by rw [toB_length, List.length_take, List.length_drop]; omega
  have ht : s.extract 0 m ++ s.extract (m + 1) (s.size - 1) = bs (toB (s.data.toList.take m) ++ toB ((s.data.toList.drop (m + 1)).take (s.size - 1 - (m + 1)))) := by
    apply WideShapes.bytes_inj
    rw [bs_toList, List.map_append, toB_bb (isP_bits h1).1, toB_bb (isP_bits h2).1]
    simp
  have hn : (toB (s.data.toList.take m) ++ toB ((s.data.toList.drop (m + 1)).take (s.size - 1 - (m + 1)))).length = N := by rw [List.length_append, hp, hq]; omega
  have h := normal_any (toB (s.data.toList.take m) ++ toB ((s.data.toList.drop (m + 1)).take (s.size - 1 - (m + 1)))) m b 0 cap _ (by omega) (by omega) (by omega) (by show b < (W.alloc _).heap.size; simp; omega) (row_held W _ _ cap b r ht hb)
  rw [hn] at h
  refine h.mono fun e w' ⟨⟨u, v, he, hnf, hu, hv⟩, hbel⟩ => ⟨⟨u, v, he, ?_, ?_, ?_⟩, hbel⟩
  · rw [List.take_left' hp, List.drop_left' hp] at hnf; exact hnf
  · have := (isP_bits h1).2; rw [← toB_length, hp] at this; omega
  · have := (isP_bits h2).2; rw [← toB_length, hq] at this; omega

set_option maxRecDepth 50000 in
set_option maxHeartbeats 400000 in
theorem Parse_long (s : ByteArray) (w : World) (hs : s.size ≤ maxLen) (h26 : 26 < s.size) :
    Calls Try.prog 96 #[.string s] w fun e w' => ParseIs s.data.toList e ∧ Below w.heap.size w w' := by
  unfold maxLen at hs
  have hl : s.data.toList.length = s.size := by simp
  have hno : okW s.data.toList = false := by
    rcases h : okW s.data.toList with _ | _
    · rfl
    · have := (okW_len h).1; omega
  go_enter Try.func96, Try.ntmps96
  go_wp2
  exact bodyPost_ret (v := .tuple #[.agg #[.string ⟨#[]⟩, .string ⟨#[]⟩], .bool false]) (by simp [results, Try.results96, go_sem]) rfl ⟨.inl ⟨hno, rfl⟩, (Below.refl _ _).alloc (Nat.le_refl _) _⟩

set_option maxRecDepth 50000 in
set_option maxHeartbeats 400000 in
theorem Parse_short (s : ByteArray) (k : Nat) (w : World) (h26 : s.size ≤ 26) (hfo : k < s.size) (ef : fo s.data.toList = (k : Int)) (hk : foN s.data.toList = k) (hlast : s.size - 1 ≤ k) :
    Calls Try.prog 96 #[.string s] w fun e w' => ParseIs s.data.toList e ∧ Below w.heap.size w w' := by
  have hno := no_short hk hlast
  have HN : Hid (okW s.data.toList = false) := hno
  clear hno
  go_enter Try.func96, Try.ntmps96
  go_wp2_with (first
    | (go_at_call 105; refine (findOpen_any s _ (by unfold maxLen; omega)).mono ?_; rintro e w1 ⟨rfl, hw1⟩; subst w1))
  exact bodyPost_ret (v := .tuple #[.agg #[.string ⟨#[]⟩, .string ⟨#[]⟩], .bool false]) (by simp [results, Try.results96, go_sem]) rfl ⟨.inl ⟨HN.out, rfl⟩, (Below.refl _ _).alloc (Nat.le_refl _) _⟩

set_option maxRecDepth 50000 in
set_option maxHeartbeats 400000 in
theorem Parse_open (s : ByteArray) (w : World) (h26 : s.size ≤ 26) (hfo : ¬ foN s.data.toList < s.size) :
    Calls Try.prog 96 #[.string s] w fun e w' => ParseIs s.data.toList e ∧ Below w.heap.size w w' := by
  have hl : s.data.toList.length = s.size := by simp
  have ef : fo s.data.toList = -1 := by unfold fo; rw [if_neg (by omega)]
  have hno := no_short (s := s) rfl (by omega)
  have HN : Hid (okW s.data.toList = false) := hno
  clear hno
  go_enter Try.func96, Try.ntmps96
  go_wp2_with (first
    | (go_at_call 105; refine (findOpen_any s _ (by unfold maxLen; omega)).mono ?_; rintro e w1 ⟨rfl, hw1⟩; subst w1))
  exact bodyPost_ret (v := .tuple #[.agg #[.string ⟨#[]⟩, .string ⟨#[]⟩], .bool false]) (by simp [results, Try.results96, go_sem]) rfl ⟨.inl ⟨HN.out, rfl⟩, (Below.refl _ _).alloc (Nat.le_refl _) _⟩

set_option maxRecDepth 50000 in
set_option maxHeartbeats 400000 in
theorem Parse_mid (s : ByteArray) (k : Nat) (w : World) (h26 : s.size ≤ 26) (hfo : k < s.size) (ef : fo s.data.toList = (k : Int)) (hk : Hid (foN s.data.toList = k)) (hlast : ¬ s.size - 1 ≤ k) :
    Calls Try.prog 96 #[.string s] w fun e w' => ParseIs s.data.toList e ∧ Below w.heap.size w w' := by
  have kc := fun (wx : World) (t : ByteArray) => run_bytes_of_string (P := Try.prog) wx 9 81 5 t Try.under9 Try.under81 Try.under5
  go_enter Try.func96, Try.ntmps96
  go_wp2_with (first
    | (go_at_call 105; refine (findOpen_any s _ (by unfold maxLen; omega)).mono ?_; rintro e w1 ⟨rfl, hw1⟩; subst w1)
    | (go_at_call 106; refine (isPart_any _ _ (by unfold maxLen; simp; omega)).mono ?_; rintro e w1 ⟨rfl, hw1⟩; subst w1)
    | (go_at_call 100; fail))
  · have hh : ((k : Int) < 0 ∨ (s.size : Int) - 1 ≤ k) ∨ (((s[s.size - 1].toNat : Nat) : Int) != 41) = true := by assumption
    rcases hh with hh | hh
    · omega
    · exact bodyPost_ret (v := .tuple #[.agg #[.string ⟨#[]⟩, .string ⟨#[]⟩], .bool false]) (by simp [results, Try.results96, go_sem]) rfl ⟨.inl ⟨no_end hk.out (by omega) hh, rfl⟩, (Below.refl _ _).alloc (Nat.le_refl _) _⟩
  · exact bodyPost_ret (v := .tuple #[.agg #[.string ⟨#[]⟩, .string ⟨#[]⟩], .bool false]) (by simp [results, Try.results96, go_sem]) rfl ⟨.inl ⟨no_round hk.out (by assumption), rfl⟩, (Below.refl _ _).alloc (Nat.le_refl _) _⟩
  · exact bodyPost_ret (v := .tuple #[.agg #[.string ⟨#[]⟩, .string ⟨#[]⟩], .bool false]) (by simp [results, Try.results96, go_sem]) rfl ⟨.inl ⟨no_part hk.out (by assumption) (by assumption), rfl⟩, (Below.refl _ _).alloc (Nat.le_refl _) _⟩
  · have t3 : ((0 : Int) ≤ k ∧ (k : Int) < (s.size : Int) - 1) ∧ (((s[s.size - 1].toNat : Nat) : Int) != 41) = false := by assumption
    have t2 : ¬ (s.extract (k + 1) (s.size - 1)).toList = [] := by assumption
    have t1 : isP (s.data.toList.take k) = true := by assumption
    have t0 : (s.extract (k + 1) (s.size - 1)).toList.isEmpty = false ∧ (!isP ((s.data.toList.drop (k + 1)).take (s.size - 1 - (k + 1)))) = false := by assumption
    have hy := okW_yes hk.out (by omega) t3.2 t2 t1 t0.2
    have hcapg := grownCap_ge (w.alloc (Obj.cells #[Value.string { data := #[] }, Value.string { data := #[] }] 74)) (min k s.size + (s.size - 1 - (k + 1))) 0 5
    refine (normal_txt s k _ _ _ _ _ _ (by simp) h26 hy.2 t1 (by simpa using t0.2) (by omega) (by omega) hcapg).mono ?_
    rintro e w1 ⟨⟨u, v, rfl, hn, hu, hv⟩, hb1⟩
    have hbx := ((Boxed.new w w.heap.size ⟨#[]⟩ ⟨#[]⟩ 74 rfl).below (((Below.refl (w.heap.size + 1) _).alloc (by simp) _).drew) (by omega)).below hb1 (by show w.heap.size < (World.alloc _ _).heap.size; simp; omega)
    have hbel : Below w.heap.size w w1 := ((((Below.refl w.heap.size w).alloc (Nat.le_refl _) _).alloc (by simp) _).drew).trans (hb1.mono (by show w.heap.size ≤ (World.alloc _ _).heap.size; simp; omega))
    obtain ⟨d0, d1, e0, e1⟩ := hbx
    clear hb1 hcapg
    go_wp2
    have hst := Boxed.store ⟨d0, d1, e0, e1⟩ (bs u) (bs v)
    have q0 := hst.c0
    have q1 := hst.c1
    refine bodyPost_ret (v := .tuple #[.agg #[.string (bs u), .string (bs v)], .bool true]) (by simp [results, Try.results96, go_sem, q0, q1]) rfl ⟨.inr ⟨hy.1, u, v, rfl, ?_, hu, hv⟩, (hbel.setCell (Nat.le_refl _) _).setCell (Nat.le_refl _) _⟩
    have e : s.data.toList.length - k - 2 = s.size - 1 - (k + 1) := by rw [show s.data.toList.length = s.size by simp]; omega
    unfold pU pV
    rw [hk.out, e]; exact hn
  · exact bodyPost_ret (v := .tuple #[.agg #[.string ⟨#[]⟩, .string ⟨#[]⟩], .bool false]) (by simp [results, Try.results96, go_sem]) rfl ⟨.inl ⟨no_lead hk.out (by assumption), rfl⟩, (Below.refl _ _).alloc (Nat.le_refl _) _⟩

theorem Parse_any (s : ByteArray) (w : World) (hs : s.size ≤ maxLen) :
    Calls Try.prog 96 #[.string s] w fun e w' => ParseIs s.data.toList e ∧ Below w.heap.size w w' := by
  by_cases h26 : 26 < s.size
  · exact Parse_long s w hs h26
  · by_cases hfo : foN s.data.toList < s.size
    · have hl : s.data.toList.length = s.size := by simp
      have ef : fo s.data.toList = (foN s.data.toList : Int) := by unfold fo; rw [if_pos (by omega)]
      by_cases hlast : s.size - 1 ≤ foN s.data.toList
      · exact Parse_short s _ w (by omega) hfo ef rfl hlast
      · exact Parse_mid s _ w (by omega) hfo ef rfl hlast
    · exact Parse_open s w (by omega) hfo
end Go.Proofs.Ytfbkjopidjojeab

