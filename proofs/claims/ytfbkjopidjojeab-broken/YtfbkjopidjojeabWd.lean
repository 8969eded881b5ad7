/-
  Walks, part d: repeats, period, normal of package word.
-/
import Derived.Test.YtfbkjopidjojeabWc
namespace Go.Proofs.Ytfbkjopidjojeab
open Go.RowKit

/-- Cells of memory that hold bits, as bytes. -/
def Held (w : World) (b off : Nat) (l : List Bool) : Prop := ∀ i, i < l.length → w.cell? ⟨b, off + i, none⟩ = some (.int .u8 ((bb (l.getD i false)).toNat : Int))

/-- Are the first k members from p on those p earlier? -/
def PerTo (l : List Bool) (p k : Nat) : Prop := ∀ i, p ≤ i → i < k → l.getD i false = l.getD (i - p) false

theorem bb_ne {a b : Bool} (h : (((bb a).toNat : Int) != ((bb b).toNat : Int)) = true) : a ≠ b := by
  intro e; subst e; simp at h
theorem bb_eq {a b : Bool} (h : (((bb a).toNat : Int) != ((bb b).toNat : Int)) = false) : a = b := by
  cases a <;> cases b <;> simp_all [bb]
theorem Per_of_PerTo {l : List Bool} {p : Nat} (h : PerTo l p l.length) : Per l p := by
  intro i hi
  have := h (i + p) (by omega) hi
  rw [this]; congr 1; omega
theorem not_Per {l : List Bool} {p k : Nat} (hp : p ≤ k) (hk : k < l.length) (h : l.getD k false ≠ l.getD (k - p) false) : ¬ Per l p := by
  intro g
  have := g (k - p) (by omega)
  have e : k - p + p = k := by omega
  rw [e] at this; exact h this

/-- What repeats gives. -/
def Rep (l : List Bool) (p : Nat) (e : Ending) : Prop := ∃ r : Bool, e = .returned (.bool r) ∧ Hid (r = true ↔ Per l p)

set_option maxRecDepth 50000 in
set_option maxHeartbeats 800000 in
theorem repeats_any (l : List Bool) (p b off cap : Nat) (w : World) (hl : l.length ≤ 1152921504606846976) (hp0 : 0 < p) (hp : p ≤ l.length) (hc : Held w b off l) :
    Calls Try.prog 108 #[.slice (some ⟨b, off, none⟩) l.length cap, .int .i64 p] w fun e w' => Rep l p e ∧ (∃ n, w' = w.drewN n) := by
  go_enter Try.func108, Try.ntmps108
  go_wp2
  go_loopw [5] (fun i wr => ∃ k nd : Nat, p ≤ k ∧ k ≤ l.length ∧ i = .int .i64 k ∧ Hid (PerTo l p k) ∧ wr = w.drewN nd) (fun i _ => l.length - (intOf i).toNat)
  case atStart => exact ⟨p, 0, Nat.le_refl _, hp, rfl, fun i h1 h2 => by omega, rfl⟩
  case round =>
    obtain ⟨k, nd, hk1, hk, rfl, hf, rfl⟩ := hrel
    by_cases hlt : k < l.length
    · have c1 := hc k hlt
      have c2 := hc (k - p) (by omega)
      obtain ⟨x, hx⟩ : ∃ x, x = l.getD k false := ⟨_, rfl⟩
      obtain ⟨y, hy⟩ : ∃ y, y = l.getD (k - p) false := ⟨_, rfl⟩
      rw [← hx] at c1
      rw [← hy] at c2
      have HX : Hid (x = l.getD k false) := hx
      have HY : Hid (y = l.getD (k - p) false) := hy
      clear hx hy
      have hkp : (0 : Int) ≤ (k : Int) - (p : Int) := by omega
      have hkl : (k : Int) < (l.length : Int) := by omega
      have hkl2 : (k : Int) - (p : Int) < (l.length : Int) := by omega
      go_wp2
      go_quiet (fail)
      go_wp2
      · go_ret
        have hne : (((bb x).toNat : Int) != ((bb y).toNat : Int)) = true := by assumption
        have hno : ¬ Per l p := not_Per hk1 hlt (by rw [← HX.out, ← HY.out]; exact bb_ne hne)
        exact ⟨⟨false, rfl, ⟨fun h => by simp at h, fun h => absurd h hno⟩⟩, nd + nq, by simp⟩
      · have heq : (((bb x).toNat : Int) != ((bb y).toNat : Int)) = false := by assumption
        go_roundw
        case rel =>
          refine ⟨k + 1, nd + nq, by omega, by omega, by go_num, ?_, rfl⟩
          intro i h1 h2
          rcases Nat.lt_or_ge i k with g | g
          · exact hf.out i h1 g
          · have : i = k := by omega
            subst this
            rw [← HX.out, ← HY.out]; exact bb_eq heq
        case measure => simp [intOf]; omega
    · go_wp2
      go_ret
      have : k = l.length := by omega
      subst this
      exact ⟨⟨true, rfl, ⟨fun _ => Per_of_PerTo hf.out, fun _ => rfl⟩⟩, nd, rfl⟩

/-- What period gives. -/
def Peri (l : List Bool) (e : Ending) : Prop := ∃ p : Nat, e = .returned (.int .i64 p) ∧ 0 < p ∧ p ≤ l.length ∧ p ∣ l.length ∧ Per l p ∧ ∀ q, 0 < q → q < p → q ∣ l.length → ¬ Per l q

theorem Held.drewN {w : World} {b off : Nat} {l : List Bool} (h : Held w b off l) (n : Nat) : Held (w.drewN n) b off l := fun i hi => by
  have := h i hi
  simpa using this

set_option maxRecDepth 50000 in
set_option maxHeartbeats 800000 in
theorem period_any (l : List Bool) (b off cap : Nat) (w : World) (hl : l.length ≤ 1152921504606846976) (hl0 : 0 < l.length) (hc : Held w b off l) :
    Calls Try.prog 107 #[.slice (some ⟨b, off, none⟩) l.length cap] w fun e w' => Peri l e ∧ (∃ n, w' = w.drewN n) := by
  go_enter Try.func107, Try.ntmps107
  go_wp2
  go_loopw [3] (fun i wr => ∃ k nd : Nat, 0 < k ∧ k ≤ l.length ∧ i = .int .i64 k ∧ Hid (∀ q, 0 < q → q < k → q ∣ l.length → ¬ Per l q) ∧ wr = w.drewN nd) (fun i _ => l.length - (intOf i).toNat)
  case atStart => exact ⟨1, 0, by omega, by omega, rfl, fun q h1 h2 => by omega, rfl⟩
  case round =>
    obtain ⟨k, nd, hk0, hk, rfl, hf, rfl⟩ := hrel
    have hk1 : (1 : Int) ≤ (k : Int) := by omega
    by_cases hlt : k < l.length
    · by_cases hm : l.length % k = 0
      · have hmi : (l.length : Int) % (k : Int) = 0 := by omega
        go_wp2_with (go_at_call 108; refine (repeats_any l k b off cap _ hl hk0 hk (hc.drewN _)).mono ?_; rintro e w' ⟨⟨r, rfl, hr⟩, nq, rfl⟩)
        · have hr : Hid (r = true ↔ Per l k) := by assumption
          go_ret
          exact ⟨⟨k, rfl, hk0, hk, Nat.dvd_of_mod_eq_zero hm, hr.out.1 (by assumption), hf.out⟩, nd + nq, by simp⟩
        · have hr : Hid (r = true ↔ Per l k) := by assumption
          have hrf : r = false := by assumption
          go_roundw
          case rel =>
            refine ⟨k + 1, nd + nq, by omega, by omega, by go_num, ?_, rfl⟩
            intro q h1 h2 h3
            rcases Nat.lt_or_ge q k with g | g
            · exact hf.out q h1 g h3
            · have : q = k := by omega
              subst this
              intro hq
              rw [hr.out.2 hq] at hrf
              cases hrf
          case measure => simp [intOf]; omega
      · have hmi : ¬ (l.length : Int) % (k : Int) = 0 := by omega
        go_wp2
        go_roundw
        case rel =>
          refine ⟨k + 1, nd, by omega, by omega, by go_num, ?_, rfl⟩
          intro q h1 h2 h3
          rcases Nat.lt_or_ge q k with g | g
          · exact hf.out q h1 g h3
          · have : q = k := by omega
            subst this
            exact absurd (Nat.mod_eq_zero_of_dvd h3) hm
        case measure => simp [intOf]; omega
    · go_wp2
      go_ret
      have : k = l.length := by omega
      subst this
      exact ⟨⟨l.length, rfl, hl0, Nat.le_refl _, Nat.dvd_refl _, fun i hi => by omega, hf.out⟩, nd, rfl⟩
end Go.Proofs.Ytfbkjopidjojeab
