/-
  Plain mathematics of programs: normal forms by reckoning.
-/
import Derived.Test.YtfbkjopidjojeabCd
namespace Go.Proofs.Ytfbkjopidjojeab
open Go.RowKit

theorem find_least {n k : Nat} {p : Nat → Bool} (hk : k < n) (h : p k = true) (hl : ∀ j, p j = true → k ≤ j) : ((List.range n).find? p).getD 0 = k := by
  have : (List.range n).find? p = some k := by
    rw [List.find?_range_eq_some]
    refine ⟨h, List.mem_range.2 hk, fun j hj => ?_⟩
    cases e : p j with
    | false => rfl
    | true => have := hl j e; omega
  rw [this]; rfl

theorem EP_of_tab {f : Nat → Bool} {m p q : Nat} (hE : EP f m p) (hq : 0 < q) (hd : q ∣ p) (h : ∀ i, i < p - q → f (m + i + q) = f (m + i)) : EP f m q := by
  have hb : bitAt (tab f 0 m) (tab f m p) = f := funext (bitAt_tab hE)
  have hp := hE.1
  have := EP_of_Per (u := tab f 0 m) (v := tab f m p) hq (by rw [tab_length]; exact hd) (by intro e; have := congrArg List.length e; rw [tab_length] at this; simp at this; omega) (fun i hi => by
    rw [tab_length] at hi
    rw [tab_getD _ _ _ _ (by omega), tab_getD _ _ _ _ (by omega), ← Nat.add_assoc]
    exact h i (by omega))
  rw [hb, tab_length] at this
  exact this

theorem NF.tabs {f : Nat → Bool} {u v : List Bool} (h : NF f u v) : u = tab f 0 u.length ∧ v = tab f u.length v.length := by
  have e := bitAt_tab h.ep
  exact parts_eq (by rw [tab_length]) (by rw [tab_length]) (fun n => by rw [e, h.bits])

theorem nfL_eq {f : Nat → Bool} {u v : List Bool} {m p : Nat} (h : NF f u v) (hE : EP f m p) : nfL f m p = (u, v) := by
  have hE2 : EP f m v.length := hE.from h.ep
  have hu : u.length ≤ m := h.pre m hE2
  have hd : v.length ∣ p := by
    have hg := EP.gcd _ v.length p (Nat.le_refl _) hE2 hE
    have h1 := h.per _ _ hg
    have h2 := Nat.le_of_dvd hE2.1 (Nat.gcd_dvd_left v.length p)
    have : Nat.gcd v.length p = v.length := by omega
    rw [← this]; exact Nat.gcd_dvd_right _ _
  have hv : perL f m p = v.length := by
    unfold perL
    apply find_least
    · have := Nat.le_of_dvd hE.1 hd; omega
    · simp only [Bool.and_eq_true, decide_eq_true_eq, List.all_eq_true, List.mem_range, beq_iff_eq]
      exact ⟨⟨hE2.1, Nat.mod_eq_zero_of_dvd hd⟩, fun i _ => hE2.2 _ (by omega)⟩
    · intro q hq
      simp only [Bool.and_eq_true, decide_eq_true_eq, List.all_eq_true, List.mem_range, beq_iff_eq] at hq
      exact h.per m q (EP_of_tab hE hq.1.1 (Nat.dvd_of_mod_eq_zero hq.1.2) hq.2)
  have hk : preL f m v.length = u.length := by
    unfold preL
    apply find_least
    · omega
    · simp only [List.all_eq_true, List.mem_range, beq_iff_eq]
      intro i _
      exact h.ep.2 _ (by omega)
    · intro k hk
      simp only [List.all_eq_true, List.mem_range, beq_iff_eq] at hk
      apply h.pre k
      refine ⟨hE2.1, fun n hn => ?_⟩
      rcases Nat.lt_or_ge n m with g | g
      · have := hk (n - k) (by omega)
        rw [show k + (n - k) = n by omega] at this
        exact this
      · exact hE2.2 n g
  obtain ⟨e1, e2⟩ := h.tabs
  show (tab f 0 (preL f m (perL f m p)), tab f (preL f m (perL f m p)) (perL f m p)) = (u, v)
  rw [hv, hk, ← e1, ← e2]

theorem wdL_eq {l : List UInt8} {u v : List Bool} (hok : okW l = true) (h : NF (bitAt (toB (pU l)) (toB (pV l))) u v) : wdL l = some (u, v) := by
  have hv := (okW_len hok).2.2.2
  unfold wdL
  rw [if_pos hok]
  show some (nfL _ _ _) = _
  rw [nfL_eq h (EP_bitAt _ _ hv)]
theorem wdL_no {l : List UInt8} (hok : okW l = false) : wdL l = none := by simp [wdL, hok]

/-- What Parse gives, by the model. -/
def WdIs (l : List UInt8) (e : Ending) : Prop := ∃ u v : List Bool, e = .returned (.tuple #[.agg #[.string (bs u), .string (bs v)], .bool (wdL l).isSome]) ∧ Hid (∀ x, wdL l = some x → x = (u, v) ∧ u.length ≤ 12 ∧ v.length ≤ 12 ∧ v ≠ [])
theorem Parse_m (s : ByteArray) (w : World) (hs : s.size ≤ 1048576) :
    Calls Try.prog 96 #[.string s] w fun e w' => WdIs s.data.toList e ∧ Below w.heap.size w w' := by
  refine (Parse_any s w (by unfold maxLen; omega)).mono ?_
  rintro e w' ⟨⟨hn, rfl⟩ | ⟨hy, u, v, rfl, h, hu, hv⟩, hb⟩
  · exact ⟨⟨[], [], by rw [wdL_no hn]; rfl, fun x hx => by rw [wdL_no hn] at hx; cases hx⟩, hb⟩
  · have e := wdL_eq hy h
    exact ⟨⟨u, v, by rw [e]; rfl, fun x hx => by rw [e] at hx; cases hx; exact ⟨rfl, hu, hv, h.ne⟩⟩, hb⟩
end Go.Proofs.Ytfbkjopidjojeab
