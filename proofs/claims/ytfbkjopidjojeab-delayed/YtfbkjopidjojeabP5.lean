/-
  Joined: Dt Du Dv Fa Fb Fc Fd Ge.
-/
import Derived.Test.YtfbkjopidjojeabP4
namespace Go.Proofs.Ytfbkjopidjojeab
open Go.RowKit

/-- All of a step but its clock. -/
def stat (s : St) : Nat × Nat × List UInt8 × List Nat × Int × Wd := (s.no, s.kind, s.name, s.uses, s.num, s.wd)
theorem stat_set {qs : List St} {k : Nat} {s : St} (h : qs[k]? = some s) (c : Wd) : (qs.set k { s with ck := c }).map stat = qs.map stat := by
  rw [List.map_set]
  have e : stat { s with ck := c } = stat s := rfl
  rw [e]
  have h2 : (qs.map stat)[k]? = some (stat s) := by rw [List.getElem?_map, h]; rfl
  apply List.ext_getElem?
  intro j
  by_cases hj : k = j
  · subst hj
    rw [List.getElem?_set_self (by have := (List.getElem?_eq_some_iff.1 h2).1; exact this), h2]
  · rw [List.getElem?_set_ne hj]
theorem tick_stat {qs rs : List St} {k : Nat} {m m' : Bool} (h : tick qs k m = .ok (rs, m')) : rs.map stat = qs.map stat := by
  unfold tick at h
  split at h
  · cases h; rfl
  · rename_i s hs
    split at h
    · cases h; rfl
    · split at h
      · cases h
      · split at h
        · cases h; exact stat_set hs _
        · cases h; rfl
theorem pass_stat {n : Nat} : ∀ {qs rs : List St} {k : Nat} {m m' : Bool}, pass n qs k m = .ok (rs, m') → rs.map stat = qs.map stat := by
  induction n with
  | zero => intro qs rs k m m' h; simp [pass] at h; rw [h.1]
  | succ n ih =>
    intro qs rs k m m' h
    rw [pass] at h
    cases ht : tick qs k m with
    | error g => rw [ht] at h; cases h
    | ok r =>
      rw [ht] at h
      obtain ⟨r1, r2⟩ := r
      rw [ih h, tick_stat ht]
theorem solve_stat {n : Nat} : ∀ {qs rs : List St}, solveL n qs = .ok rs → rs.map stat = qs.map stat := by
  induction n with
  | zero => intro qs rs h; simp [solveL] at h; rw [h]
  | succ n ih =>
    intro qs rs h
    rw [solveL] at h
    cases hp : pass qs.length qs 0 false with
    | error g => rw [hp] at h; cases h
    | ok r =>
      rw [hp] at h
      obtain ⟨r1, r2⟩ := r
      simp only at h
      split at h
      · rw [ih h, pass_stat hp]
      · cases h; exact pass_stat hp
theorem give_stat (qs : List St) : (qs.map give).map stat = qs.map stat := by
  rw [List.map_map]
  apply List.map_congr_left
  intro s _
  show stat (give s) = stat s
  unfold give
  split <;> rfl

theorem Edge_stat {qs rs : List St} (h : rs.map stat = qs.map stat) {a b : Nat} (he : Edge rs a b) : Edge qs a b := by
  obtain ⟨s, h1, h2, h3⟩ := he
  have e : (rs.map stat)[a]? = some (stat s) := by rw [List.getElem?_map, h1]; rfl
  rw [h, List.getElem?_map] at e
  cases hq : qs[a]? with
  | none => rw [hq] at e; cases e
  | some t =>
    rw [hq] at e
    injection e with e
    have ek : t.kind = s.kind := congrArg (fun x => x.2.1) e
    have eu : t.uses = s.uses := congrArg (fun x => x.2.2.2.1) e
    exact ⟨t, hq, by rw [ek]; exact h2, by rw [eu]; exact h3⟩
theorem Reach_stat {qs rs : List St} (h : rs.map stat = qs.map stat) {a b : Nat} (hr : Reach rs a b) : Reach qs a b := by
  induction hr with
  | one he => exact .one (Edge_stat h he)
  | more _ he ih => exact .more ih (Edge_stat h he)

theorem firstF_zero {c : Nat} {qs : List St} {bad : Nat → Bool} (hc : c ≠ 0) (h : (firstF c qs bad).1 = 0) : ∀ k, k < qs.length → bad k = false := by
  intro k hk
  cases hb : bad k with
  | false => rfl
  | true =>
    exfalso
    unfold firstF at h
    split at h
    · rename_i hn
      rw [List.find?_eq_none] at hn
      exact hn k (List.mem_range.2 hk) hb
    · exact hc h

/-- The normal form means the stream's bits. -/
theorem nfL_bits {f : Nat → Bool} {m p : Nat} (hE : EP f m p) (n : Nat) : bitAt (nfL f m p).1 (nfL f m p).2 n = f n := by
  have hq : EP f m (perL f m p) := by
    have hp := perL_pos (f := f) (m := m) hE.1
    unfold perL at hp ⊢
    cases h : (List.range (p + 1)).find? (fun q => decide (0 < q) && decide (p % q = 0) && (List.range (p - q)).all fun i => f (m + i + q) == f (m + i)) with
    | none => rw [h] at hp; simp at hp
    | some q =>
      have hs := List.find?_some h
      simp only [Bool.and_eq_true, decide_eq_true_eq, List.all_eq_true, List.mem_range, beq_iff_eq] at hs
      exact EP_of_tab hE hs.1.1 (Nat.dvd_of_mod_eq_zero hs.1.2) hs.2
  have hk : EP f (preL f m (perL f m p)) (perL f m p) := by
    generalize perL f m p = q at hq
    unfold preL
    cases h : (List.range (m + 1)).find? (fun k => (List.range (m - k)).all fun i => f (k + i + q) == f (k + i)) with
    | none =>
      rw [List.find?_eq_none] at h
      have := h m (List.mem_range.2 (by omega))
      simp at this
    | some k =>
      have hs := List.find?_some h
      simp only [List.all_eq_true, List.mem_range, beq_iff_eq] at hs
      refine ⟨hq.1, fun n hn => ?_⟩
      rcases Nat.lt_or_ge n m with g | g
      · have := hs (n - k) (by simp at hn; omega)
        rw [show k + (n - k) = n by simp at hn; omega] at this
        exact this
      · exact hq.2 n g
  exact bitAt_tab hk n

/-- What is known of a program. -/
structure Prog (rs : List St) : Prop where
  wf : Wf rs
  ok : CkOk 64 rs
  len : rs.length ≤ 24
  fit : ∀ s ∈ rs, fitL rs s = true
  acyc : ∀ k, ¬ Hangs rs k

theorem Wf_stat {qs rs : List St} (h : rs.map stat = qs.map stat) (hw : Wf qs) : Wf rs := by
  have hl : rs.length = qs.length := by have := congrArg List.length h; simpa using this
  intro s hs
  obtain ⟨k, hk, e⟩ := List.getElem_of_mem hs
  have hkq : k < qs.length := by omega
  have e2 : stat rs[k] = stat qs[k] := by
    have a : (rs.map stat)[k]? = some (stat rs[k]) := by simp [hk]
    rw [h] at a
    have b : (qs.map stat)[k]? = some (stat qs[k]) := by simp [hkq]
    rw [b] at a
    injection a with a
    exact a.symm
  rw [e] at e2
  have w := hw qs[k] (List.getElem_mem _)
  have ek : s.kind = qs[k].kind := congrArg (fun x => x.2.1) e2
  have eu : s.uses = qs[k].uses := congrArg (fun x => x.2.2.2.1) e2
  have ew : s.wd = qs[k].wd := congrArg (fun x => x.2.2.2.2.2) e2
  rw [hl]
  exact ⟨by rw [eu]; exact w.use, by rw [eu]; exact w.len, by rw [ek]; exact w.kind, by rw [ew]; exact w.wd, by rw [ek, ew]; exact w.has⟩

theorem tick_ok {qs rs : List St} {k : Nat} {m m' : Bool} (hc : CkOk 64 qs) (h : tick qs k m = .ok (rs, m')) : CkOk 64 rs := by
  unfold tick at h
  split at h
  · cases h; exact hc
  · split at h
    · cases h; exact hc
    · split at h
      · cases h
      · rename_i hl
        split at h
        · cases h
          refine hc.set ?_
          simp [longW] at hl
          omega
        · cases h; exact hc
theorem pass_ok {n : Nat} : ∀ {qs rs : List St} {k : Nat} {m m' : Bool}, CkOk 64 qs → pass n qs k m = .ok (rs, m') → CkOk 64 rs := by
  induction n with
  | zero => intro qs rs k m m' hc h; simp [pass] at h; rw [← h.1]; exact hc
  | succ n ih =>
    intro qs rs k m m' hc h
    rw [pass] at h
    cases ht : tick qs k m with
    | error g => rw [ht] at h; cases h
    | ok r =>
      rw [ht] at h
      obtain ⟨r1, r2⟩ := r
      exact ih (tick_ok hc ht) h
theorem solve_ok {n : Nat} : ∀ {qs rs : List St}, CkOk 64 qs → solveL n qs = .ok rs → CkOk 64 rs := by
  induction n with
  | zero => intro qs rs hc h; simp [solveL] at h; rw [← h]; exact hc
  | succ n ih =>
    intro qs rs hc h
    rw [solveL] at h
    cases hp : pass qs.length qs 0 false with
    | error g => rw [hp] at h; cases h
    | ok r =>
      rw [hp] at h
      obtain ⟨r1, r2⟩ := r
      simp only at h
      split at h
      · exact ih (pass_ok hc hp) h
      · cases h; exact pass_ok hc hp

theorem make_prog {ls : List Ln} {rs : List St} (hg : ∀ l ∈ ls, GoodLn l) (hl : ls.length ≤ 24) (h : makeF ls = .ok rs) : Prog rs := by
  unfold makeF at h
  split at h
  · cases hk : linkL ls ls with
    | error g => rw [hk] at h; cases h
    | ok qs =>
      obtain ⟨w1, w2, w3⟩ := link_wf hg hk
      rw [hk] at h
      simp only at h
      split at h
      · rename_i hc
        cases hs : solveL (qs.length + 1) (qs.map give) with
        | error g => rw [hs] at h; cases h
        | ok ts =>
          rw [hs] at h
          simp only at h
          split at h
          · rename_i hu
            cases h
            have hst : rs.map stat = qs.map stat := (solve_stat hs).trans (give_stat qs)
            have hlen : rs.length = qs.length := by have := congrArg List.length hst; simpa using this
            have hgv : CkOk 64 (qs.map give) := by
              intro s hs'
              obtain ⟨q, hq, rfl⟩ := List.mem_map.1 hs'
              unfold give
              split
              · have := (w1 q hq).wd
                exact ⟨by show q.wd.1.length ≤ 64; omega, by show q.wd.2.length ≤ 64; omega⟩
              · exact w2 q hq
            refine ⟨Wf_stat hst w1, solve_ok hgv hs, by omega, fun s hs' => ?_, fun k hh => ?_⟩
            · obtain ⟨k, hk', e⟩ := List.getElem_of_mem hs'
              have := firstF_zero (by decide) hu k hk'
              unfold badFit at this
              rw [List.getElem?_eq_getElem hk', e] at this
              simpa using this
            · have hr := Reach_stat hst hh
              have hkl : k < qs.length := by
                have : ∀ b, Reach qs k b → k < qs.length := by
                  intro b hb
                  induction hb with
                  | one he =>
                    obtain ⟨s, h1, _⟩ := he
                    exact (List.getElem?_eq_some_iff.1 h1).1
                  | more _ _ ih => exact ih
                exact this k hr
              have := firstF_zero (by decide) hc k hkl
              rw [(hangB_iff qs k).2 hr] at this
              cases this
          · cases h
      · cases h
  · cases h
theorem comp_prog {t : List UInt8} {rs : List St} (h : compF t = .ok rs) : Prog rs := by
  unfold compF at h
  cases hs : sourceL t with
  | error g => rw [hs] at h; cases h
  | ok ls =>
    rw [hs] at h
    obtain ⟨h1, h2⟩ := source_good hs
    exact make_prog h1 h2 h
end Go.Proofs.Ytfbkjopidjojeab

namespace Go.Proofs.Ytfbkjopidjojeab
open Go.RowKit

/-- Where a step's clock comes from. -/
def From (qs : List St) (s : St) : Prop := hasC s.ck = true →
  (isGv s.kind = true → s.ck = s.wd) ∧
  (s.kind = 10 → hasC (ucL qs s 0) = true ∧ s.ck = onW (ucL qs s 0) s.wd) ∧
  (s.kind = 11 → hasC (ucL qs s 0) = true ∧ hasC (ucL qs s 1) = true ∧ s.ck = orW (ucL qs s 0) (ucL qs s 1)) ∧
  s.kind ≠ 13
def FromAll (qs : List St) : Prop := ∀ s ∈ qs, From qs s
theorem ucL_set {qs : List St} {k : Nat} {s t : St} {c : Wd} {n : Nat} (hk : qs[k]? = some s) (h0 : hasC s.ck = false) (hh : hasC (ucL qs t n) = true) : ucL (qs.set k { s with ck := c }) t n = ucL qs t n := by
  unfold ucL at hh ⊢
  cases hu : t.uses[n]? with
  | none => rfl
  | some j =>
    rw [hu] at hh
    simp only at hh ⊢
    by_cases hj : k = j
    · subst hj
      rw [hk] at hh
      simp only at hh
      rw [h0] at hh; cases hh
    · rw [List.getElem?_set_ne hj]
theorem ucL_ck (qs : List St) (s : St) (c : Wd) (n : Nat) : ucL qs { s with ck := c } n = ucL qs s n := rfl
theorem ckOf_has {qs : List St} {s : St} (hc : hasC (ckOf qs s) = true) :
    (s.kind = 10 → hasC (ucL qs s 0) = true ∧ ckOf qs s = onW (ucL qs s 0) s.wd) ∧
    (s.kind = 11 → hasC (ucL qs s 0) = true ∧ hasC (ucL qs s 1) = true ∧ ckOf qs s = orW (ucL qs s 0) (ucL qs s 1)) ∧
    (isGv s.kind = false) ∧ s.kind ≠ 13 := by
  unfold ckOf at hc ⊢
  cases he : isEv s.kind with
  | true =>
    rw [he] at hc
    have hb : 3 ≤ s.kind ∧ s.kind ≤ 9 := by simpa [isEv] using he
    refine ⟨fun h => by omega, fun h => by omega, ?_, by omega⟩
    simp [isGv]; omega
  | false =>
    rw [he] at hc
    simp only [Bool.false_eq_true, if_false] at hc ⊢
    by_cases h10 : (s.kind == 10 && hasC (ucL qs s 0)) = true
    · rw [if_pos h10]
      have h := Bool.and_eq_true_iff.1 h10
      have hk : s.kind = 10 := beq_iff_eq.1 h.1
      exact ⟨fun _ => ⟨h.2, rfl⟩, fun h11 => by omega, by rw [hk]; decide, by omega⟩
    · rw [if_neg h10] at hc ⊢
      by_cases h11 : (s.kind == 11 && hasC (ucL qs s 0) && hasC (ucL qs s 1)) = true
      · rw [if_pos h11]
        have h := Bool.and_eq_true_iff.1 h11
        have h' := Bool.and_eq_true_iff.1 h.1
        have hk : s.kind = 11 := beq_iff_eq.1 h'.1
        exact ⟨fun h10 => by omega, fun _ => ⟨h'.2, h.2, rfl⟩, by rw [hk]; decide, by omega⟩
      · rw [if_neg h11] at hc
        cases hc
theorem tick_from {qs rs : List St} {k : Nat} {m m' : Bool} (hf : FromAll qs) (h : tick qs k m = .ok (rs, m')) : FromAll rs := by
  unfold tick at h
  split at h
  · cases h; exact hf
  · rename_i s hs
    split at h
    · cases h; exact hf
    · rename_i h0
      have h0 : hasC s.ck = false := by simpa using h0
      split at h
      · cases h
      · split at h
        · rename_i hc
          cases h
          intro t ht
          rcases List.mem_or_eq_of_mem_set ht with ht | ht
          · intro hh
            obtain ⟨a, b, d, e⟩ := hf t ht hh
            refine ⟨a, fun hk => ?_, fun hk => ?_, e⟩
            · obtain ⟨b1, b2⟩ := b hk
              rw [ucL_set hs h0 b1]; exact ⟨b1, b2⟩
            · obtain ⟨d1, d2, d3⟩ := d hk
              rw [ucL_set hs h0 d1, ucL_set hs h0 d2]; exact ⟨d1, d2, d3⟩
          · subst ht
            intro _
            obtain ⟨a, b, d, e⟩ := ckOf_has hc
            refine ⟨fun hk => ?_, fun hk => ?_, fun hk => ?_, e⟩
            · have hk : isGv s.kind = true := hk
              rw [d] at hk; cases hk
            · obtain ⟨b1, b2⟩ := a hk
              rw [ucL_ck, ucL_set hs h0 b1]; exact ⟨b1, b2⟩
            · obtain ⟨d1, d2, d3⟩ := b hk
              have e1 : ucL (qs.set k { s with ck := ckOf qs s }) { s with ck := ckOf qs s } 0 = ucL qs s 0 := ucL_set (t := s) hs h0 d1
              have e2 : ucL (qs.set k { s with ck := ckOf qs s }) { s with ck := ckOf qs s } 1 = ucL qs s 1 := ucL_set (t := s) hs h0 d2
              rw [e1, e2]; exact ⟨d1, d2, d3⟩
        · cases h; exact hf
theorem pass_from {n : Nat} : ∀ {qs rs : List St} {k : Nat} {m m' : Bool}, FromAll qs → pass n qs k m = .ok (rs, m') → FromAll rs := by
  induction n with
  | zero => intro qs rs k m m' hc h; simp [pass] at h; rw [← h.1]; exact hc
  | succ n ih =>
    intro qs rs k m m' hc h
    rw [pass] at h
    cases ht : tick qs k m with
    | error g => rw [ht] at h; cases h
    | ok r =>
      rw [ht] at h
      obtain ⟨r1, r2⟩ := r
      exact ih (tick_from hc ht) h
theorem solve_from {n : Nat} : ∀ {qs rs : List St}, FromAll qs → solveL n qs = .ok rs → FromAll rs := by
  induction n with
  | zero => intro qs rs hc h; simp [solveL] at h; rw [← h]; exact hc
  | succ n ih =>
    intro qs rs hc h
    rw [solveL] at h
    cases hp : pass qs.length qs 0 false with
    | error g => rw [hp] at h; cases h
    | ok r =>
      rw [hp] at h
      obtain ⟨r1, r2⟩ := r
      simp only at h
      split at h
      · exact ih (pass_from hc hp) h
      · cases h; exact pass_from hc hp
theorem give_from {qs : List St} (h : ∀ s ∈ qs, s.ck = ([], [])) : FromAll (qs.map give) := by
  intro s hs hh
  obtain ⟨q, hq, rfl⟩ := List.mem_map.1 hs
  cases hg : isGv q.kind with
  | false =>
    rw [give_no hg, h q hq] at hh
    cases hh
  | true =>
    rw [give_yes hg]
    refine ⟨fun _ => rfl, fun hk => ?_, fun hk => ?_, fun hk => ?_⟩
    · have hk : q.kind = 10 := hk
      rw [hk] at hg; cases hg
    · have hk : q.kind = 11 := hk
      rw [hk] at hg; cases hg
    · have hk : q.kind = 13 := hk
      rw [hk] at hg; cases hg
theorem comp_from {t : List UInt8} {rs : List St} (h : compF t = .ok rs) : FromAll rs := by
  unfold compF at h
  cases hs : sourceL t with
  | error g => rw [hs] at h; cases h
  | ok ls =>
    rw [hs] at h
    obtain ⟨h1, _⟩ := source_good hs
    simp only at h
    unfold makeF at h
    split at h
    · cases hk : linkL ls ls with
      | error g => rw [hk] at h; cases h
      | ok qs =>
        obtain ⟨g1, _⟩ := link_good h1 hk
        rw [hk] at h
        simp only at h
        split at h
        · cases hv : solveL (qs.length + 1) (qs.map give) with
          | error g => rw [hv] at h; cases h
          | ok ts =>
            rw [hv] at h
            simp only at h
            split at h
            · cases h; exact solve_from (give_from fun s hs => (g1 s hs).2) hv
            · cases h
        · cases h
    · cases h

/-- A step's clock as a stream. -/
def ckS (s : St) : Nat → Bool := bitAt s.ck.1 s.ck.2
theorem onW_bits {a b : Wd} (ha : a.2 ≠ []) (hb : b.2 ≠ []) (n : Nat) : bitAt (onW a b).1 (onW a b).2 n = onS (bitAt a.1 a.2) (bitAt b.1 b.2) n := nfL_bits (EP_onW ha hb) n
theorem orW_bits {a b : Wd} (ha : a.2 ≠ []) (hb : b.2 ≠ []) (n : Nat) : bitAt (orW a b).1 (orW a b).2 n = (bitAt a.1 a.2 n || bitAt b.1 b.2 n) := nfL_bits (EP_or (EP_bitAt _ _ ha) (EP_bitAt _ _ hb)) n
theorem notW_bits {a : Wd} (ha : a.2 ≠ []) (n : Nat) : bitAt (notW a).1 (notW a).2 n = !bitAt a.1 a.2 n := nfL_bits (EP_map (EP_bitAt _ _ ha)) n
theorem hasC_ne {c : Wd} (h : hasC c = true) : c.2 ≠ [] := fun e => by rw [hasC, e] at h; simp at h
theorem notW_ne {a : Wd} (ha : a.2 ≠ []) : (notW a).2 ≠ [] := (nfL_ok (n := max a.1.length a.2.length) (List.length_pos_iff.2 ha) (Nat.le_max_left _ _) (Nat.le_max_right _ _)).1

/-- How the clocks of a program hang together, as streams. -/
structure Clk (rs : List St) : Prop where
  has : ∀ s ∈ rs, s.kind ≠ 13 → s.ck.2 ≠ []
  given : ∀ s ∈ rs, isGv s.kind = true → s.ck = s.wd
  even : ∀ s ∈ rs, isEv s.kind = true → ∀ n, n < s.uses.length → ucL rs s n = s.ck
  when_ : ∀ s ∈ rs, s.kind = 10 → hasC (ucL rs s 0) = true ∧ ∀ n, ckS s n = onS (bitAt (ucL rs s 0).1 (ucL rs s 0).2) (bitAt s.wd.1 s.wd.2) n
  merge : ∀ s ∈ rs, s.kind = 11 → (∀ n, bitAt (ucL rs s 0).1 (ucL rs s 0).2 n = onS (ckS s) (bitAt s.wd.1 s.wd.2) n) ∧ ∀ n, bitAt (ucL rs s 1).1 (ucL rs s 1).2 n = onS (ckS s) (fun j => !bitAt s.wd.1 s.wd.2 j) n
  buffer : ∀ s ∈ rs, s.kind = 12 → hasC (ucL rs s 0) = true ∧ AdaptsS (bitAt (ucL rs s 0).1 (ucL rs s 0).2) (ckS s)
theorem onS_congr {f g h : Nat → Bool} (e : ∀ n, g n = h n) (n : Nat) : onS f g n = onS f h n := by unfold onS; rw [e]
theorem prog_clk {rs : List St} (hp : Prog rs) (hf : FromAll rs) : Clk rs := by
  have hhas : ∀ s ∈ rs, s.kind ≠ 13 → hasC s.ck = true := by
    intro s hs hk
    have := hp.fit s hs
    unfold fitL at this
    rw [if_neg (by simpa using hk)] at this
    cases hh : hasC s.ck with
    | true => rfl
    | false => rw [hh] at this; simp at this
  have hgv : ∀ {s : St}, isGv s.kind = true → s.kind ≠ 13 := fun {s} h e => by rw [e] at h; cases h
  refine ⟨fun s hs hk => hasC_ne (hhas s hs hk), fun s hs hg => ?_, fun s hs he n hn => ?_, fun s hs hk => ?_, fun s hs hk => ?_, fun s hs hk => ?_⟩
  · exact (hf s hs (hhas s hs (hgv hg))).1 hg
  · have hb : 3 ≤ s.kind ∧ s.kind ≤ 9 := by simpa [isEv] using he
    have h1 := hp.fit s hs
    unfold fitL at h1
    rw [if_neg (by simp; omega), hhas s hs (by omega), if_neg (by simp), if_pos he] at h1
    unfold fitEv at h1
    have := List.all_eq_true.1 h1 n (List.mem_range.2 hn)
    exact beq_iff_eq.1 this
  · obtain ⟨a, b⟩ := (hf s hs (hhas s hs (by omega))).2.1 hk
    refine ⟨a, fun n => ?_⟩
    unfold ckS
    rw [b]
    exact onW_bits (hasC_ne a) ((hp.wf s hs).has (.inl hk)) n
  · have h1 := hp.fit s hs
    unfold fitL at h1
    have hev : isEv s.kind = false := by rw [hk]; decide
    rw [if_neg (by rw [hk]; decide), hhas s hs (by omega), if_neg (by simp), hev, if_neg (by simp), if_pos (by rw [hk]; decide)] at h1
    unfold fitMg at h1
    have h2 := Bool.and_eq_true_iff.1 h1
    have hck := hasC_ne (hhas s hs (by omega))
    have hwd := (hp.wf s hs).has (.inr (.inl hk))
    refine ⟨fun n => ?_, fun n => ?_⟩
    · rw [← beq_iff_eq.1 h2.1]; exact onW_bits hck hwd n
    · rw [← beq_iff_eq.1 h2.2, onW_bits hck (notW_ne hwd) n]
      exact onS_congr (notW_bits hwd) n
  · have h1 := hp.fit s hs
    unfold fitL at h1
    have hev : isEv s.kind = false := by rw [hk]; decide
    rw [if_neg (by rw [hk]; decide), hhas s hs (by omega), if_neg (by simp), hev, if_neg (by simp), if_neg (by rw [hk]; decide), if_pos (by rw [hk]; decide)] at h1
    unfold fitBf at h1
    have h2 := Bool.and_eq_true_iff.1 h1
    exact ⟨h2.1, (adB_iff (hasC_ne h2.1) (hasC_ne (hhas s hs (by omega)))).1 h2.2⟩
end Go.Proofs.Ytfbkjopidjojeab

namespace Go.Proofs.Ytfbkjopidjojeab
open Go.RowKit

/-- How many names a kind uses. -/
def usesN (k : Nat) : Nat := if k = 1 ∨ k = 2 then 0 else if k = 8 then 3 else if k = 11 ∨ (3 ≤ k ∧ k ≤ 7) then 2 else 1
def isNm (c : UInt8) : Bool := !(c == 110) && !(c == 119)
/-- What is known of a line's names. -/
structure NmLn (l : Ln) : Prop where
  n13 : l.kind = 13 → l.name = []
  own : l.kind ≠ 13 → l.name ≠ []
  len : l.uses.length = usesN l.kind
  use : ∀ u ∈ l.uses, u ≠ []
theorem okN_ne {p : List UInt8} (h : okN p = true) : p ≠ [] := fun e => by rw [e] at h; cases h
theorem take_nm {l l' : Ln} {c : UInt8} {p : List UInt8} (ht : takeL l c p = some l') (hu : ∀ u ∈ l.uses, u ≠ []) :
    l'.kind = l.kind ∧ l'.name = l.name ∧ l'.uses.length = l.uses.length + (isNm c).toNat ∧ ∀ u ∈ l'.uses, u ≠ [] := by
  unfold takeL at ht
  split at ht
  · rename_i hc
    cases hn : numL p with
    | none => rw [hn] at ht; cases ht
    | some v => rw [hn] at ht; cases ht; exact ⟨rfl, rfl, by simp [isNm, hc], hu⟩
  · rename_i h1
    split at ht
    · rename_i hc
      cases hn : wdL p with
      | none => rw [hn] at ht; cases ht
      | some v => rw [hn] at ht; cases ht; exact ⟨rfl, rfl, by simp [isNm, hc], hu⟩
    · rename_i h2
      split at ht
      · rename_i hok
        cases ht
        refine ⟨rfl, rfl, ?_, fun u h => ?_⟩
        · have e1 : (c == 110) = false := by simpa using h1
          have e2 : (c == 119) = false := by simpa using h2
          simp [isNm, e1, e2]
        · rcases List.mem_append.1 h with h | h
          · exact hu u h
          · rw [List.mem_singleton.1 h]; exact okN_ne hok
      · cases ht
theorem fill_nm : ∀ {s : List UInt8} {l l' : Ln} {ps : List (List UInt8)}, fillL l s ps = some l' → (∀ u ∈ l.uses, u ≠ []) →
    l'.kind = l.kind ∧ l'.name = l.name ∧ l'.uses.length = l.uses.length + s.countP isNm ∧ ∀ u ∈ l'.uses, u ≠ [] := by
  intro s
  induction s with
  | nil =>
    intro l l' ps h hu
    cases ps with
    | nil => simp [fillL] at h; subst h; exact ⟨rfl, rfl, by simp, hu⟩
    | cons a b => simp [fillL] at h
  | cons c s ih =>
    intro l l' ps h hu
    cases ps with
    | nil => simp [fillL] at h
    | cons a b =>
      rw [fillL] at h
      cases ht : takeL l c a with
      | none => rw [ht] at h; cases h
      | some l2 =>
        rw [ht] at h
        obtain ⟨a1, a2, a3, a4⟩ := take_nm ht hu
        obtain ⟨b1, b2, b3, b4⟩ := ih h a4
        refine ⟨b1.trans a1, b2.trans a2, ?_, b4⟩
        rw [b3, a3, List.countP_cons]
        cases isNm c <;> simp <;> omega
theorem own_nm {k : Nat} {own shape : List UInt8} {ps : List (List UInt8)} {l : Ln} (h : ownL k own shape ps = some l) (hk : k ≠ 13) (hs : shape.countP isNm = usesN k) : NmLn l := by
  unfold ownL at h
  split at h
  · rename_i hok
    obtain ⟨a1, a2, a3, a4⟩ := fill_nm h (fun u hu => by simp [Ln.zero] at hu)
    have a1 : l.kind = k := a1
    have a2 : l.name = own := a2
    refine ⟨fun e => absurd (a1.symm.trans e) hk, fun _ => by rw [a2]; exact okN_ne hok, ?_, a4⟩
    rw [a3, a1, hs]; simp [Ln.zero]
  · cases h
theorem oper_nm (c : List UInt8) (h : ((operL c).1 == 0) = false) : (operL c).1 ≠ 13 ∧ (operL c).2.countP isNm = usesN (operL c).1 := by
  revert h
  unfold operL
  by_cases h0 : (c == [99, 111, 110, 115, 116]) = true
  · rw [if_pos h0]; decide
  rw [if_neg h0]
  by_cases h1 : (c == [97, 100, 100]) = true
  · rw [if_pos h1]; decide
  rw [if_neg h1]
  by_cases h2 : (c == [115, 117, 98]) = true
  · rw [if_pos h2]; decide
  rw [if_neg h2]
  by_cases h3 : (c == [109, 117, 108]) = true
  · rw [if_pos h3]; decide
  rw [if_neg h3]
  by_cases h4 : (c == [100, 105, 118]) = true
  · rw [if_pos h4]; decide
  rw [if_neg h4]
  by_cases h5 : (c == [108, 101, 115, 115]) = true
  · rw [if_pos h5]; decide
  rw [if_neg h5]
  by_cases h6 : (c == [105, 102]) = true
  · rw [if_pos h6]; decide
  rw [if_neg h6]
  by_cases h7 : (c == [102, 98, 121]) = true
  · rw [if_pos h7]; decide
  rw [if_neg h7]
  by_cases h8 : (c == [119, 104, 101, 110]) = true
  · rw [if_pos h8]; decide
  rw [if_neg h8]
  by_cases h9 : (c == [109, 101, 114, 103, 101]) = true
  · rw [if_pos h9]; decide
  rw [if_neg h9]
  by_cases h10 : (c == [98, 117, 102, 102, 101, 114]) = true
  · rw [if_pos h10]; decide
  rw [if_neg h10]
  decide
theorem parse_nm {ps : List (List UInt8)} {l : Ln} (h : parseL ps = some l) : NmLn l := by
  unfold parseL at h
  split at h
  · split at h
    · exact own_nm h (by omega) (by decide)
    · split at h
      · obtain ⟨a1, a2, a3, a4⟩ := fill_nm h (fun u hu => by simp [Ln.zero] at hu)
        have a1 : l.kind = 13 := a1
        refine ⟨fun _ => a2, fun e => absurd a1 e, ?_, a4⟩
        rw [a3, a1]; decide
      · split at h
        · split at h
          · split at h
            · cases h
            · rename_i c r' _ hk
              obtain ⟨a, b⟩ := oper_nm c (by simpa using hk)
              exact own_nm h a b
          · cases h
        · cases h
  · cases h
theorem read_nm : ∀ {R : List (List UInt8)} {n : Nat} {ls : List Ln}, readL n R = .ok ls → ∀ l ∈ ls, NmLn l := by
  intro R
  induction R with
  | nil => intro n ls h l hl; simp [readL] at h; subst h; simp at hl
  | cons r R ih =>
    intro n ls h
    rw [readL] at h
    split at h
    · exact ih h
    · cases hp : parseL (filL (cutL 32 r)) with
      | none => rw [hp] at h; cases h
      | some l =>
        rw [hp] at h
        simp only at h
        cases hr : readL (n + 1) R with
        | error e => rw [hr] at h; cases h
        | ok m =>
          rw [hr] at h
          cases h
          intro x hx
          rcases List.mem_cons.1 hx with rfl | hx
          · have := parse_nm hp
            exact ⟨this.n13, this.own, this.len, this.use⟩
          · exact ih hr x hx
theorem source_nm {t : List UInt8} {ls : List Ln} (h : sourceL t = .ok ls) : ∀ l ∈ ls, NmLn l := by
  unfold sourceL at h
  split at h
  · cases h
  · cases hr : readL 0 (cutL 10 t) with
    | error e => rw [hr] at h; cases h
    | ok m =>
      rw [hr] at h
      simp only [finL] at h
      split at h
      · cases h
      · cases h; exact read_nm hr

/-- A step and its line. -/
def Joins (all : List Ln) (l : Ln) (s : St) : Prop := s.kind = l.kind ∧ s.name = l.name ∧ s.uses.length = l.uses.length ∧ ∀ x ∈ s.uses, ∃ t, all[x]? = some t ∧ t.name ∈ l.uses
theorem link_joins {all : List Ln} : ∀ {ls : List Ln} {qs : List St}, linkL all ls = .ok qs → qs.length = ls.length ∧ ∀ (k : Nat) (l : Ln) (s : St), ls[k]? = some l → qs[k]? = some s → Joins all l s := by
  intro ls
  induction ls with
  | nil => intro qs h; simp [linkL] at h; subst h; simp
  | cons l ls ih =>
    intro qs h
    rw [linkL] at h
    cases hs : stepL all l with
    | none => rw [hs] at h; cases h
    | some s =>
      rw [hs] at h
      simp only at h
      cases hl : linkL all ls with
      | error g => rw [hl] at h; cases h
      | ok r =>
        rw [hl] at h
        cases h
        obtain ⟨h1, h2⟩ := ih hl
        refine ⟨by simp [h1], fun k l' s' e1 e2 => ?_⟩
        cases k with
        | succ k => exact h2 k l' s' (by simpa using e1) (by simpa using e2)
        | zero =>
          simp at e1 e2
          subst e1; subst e2
          unfold stepL at hs
          cases ho : ownersL all l.uses with
          | none => rw [ho] at hs; cases hs
          | some u =>
            rw [ho] at hs
            cases hs
            unfold ownersL at ho
            split at ho
            · rename_i hall
              cases ho
              refine ⟨rfl, rfl, by simp, fun x hx => ?_⟩
              obtain ⟨nm, hnm, rfl⟩ := List.mem_map.1 hx
              have := List.all_eq_true.1 hall nm hnm
              cases he : ownerL all nm with
              | none => rw [he] at this; cases this
              | some k =>
                have he2 := he
                unfold ownerL at he2
                rw [List.findIdx?_eq_some_iff_getElem] at he2
                obtain ⟨g1, g2, _⟩ := he2
                refine ⟨all[k], by simp [g1], ?_⟩
                rw [beq_iff_eq.1 g2]; exact hnm
            · cases ho

/-- Names in a program. -/
structure Named (rs : List St) : Prop where
  n13 : ∀ s ∈ rs, s.kind = 13 → s.name = []
  own : ∀ s ∈ rs, s.kind ≠ 13 → s.name ≠ []
  len : ∀ s ∈ rs, s.uses.length = usesN s.kind
  use : ∀ s ∈ rs, ∀ x ∈ s.uses, ∃ t, rs[x]? = some t ∧ t.kind ≠ 13
  uniq : ∀ (i j : Nat) (s t : St), rs[i]? = some s → rs[j]? = some t → s.kind ≠ 13 → s.name = t.name → i = j
theorem Named.stat {qs rs : List St} (h : rs.map stat = qs.map stat) (hq : Named qs) : Named rs := by
  have hl : rs.length = qs.length := by have := congrArg List.length h; simpa using this
  have key : ∀ (k : Nat) (s : St), rs[k]? = some s → ∃ q, qs[k]? = some q ∧ s.kind = q.kind ∧ s.name = q.name ∧ s.uses = q.uses := by
    intro k s hs
    have a : (rs.map Go.Proofs.Ytfbkjopidjojeab.stat)[k]? = some (Go.Proofs.Ytfbkjopidjojeab.stat s) := by rw [List.getElem?_map, hs]; rfl
    rw [h, List.getElem?_map] at a
    cases hk : qs[k]? with
    | none => rw [hk] at a; cases a
    | some q =>
      rw [hk] at a
      injection a with a
      exact ⟨q, rfl, (congrArg (fun x => x.2.1) a).symm, (congrArg (fun x => x.2.2.1) a).symm, (congrArg (fun x => x.2.2.2.1) a).symm⟩
  have back : ∀ (k : Nat) (q : St), qs[k]? = some q → ∃ s, rs[k]? = some s ∧ s.kind = q.kind := by
    intro k q hk
    have hlt : k < rs.length := by rw [hl]; exact (List.getElem?_eq_some_iff.1 hk).1
    obtain ⟨q', e1, e2, _⟩ := key k rs[k] (List.getElem?_eq_getElem hlt)
    rw [hk] at e1; injection e1 with e1; subst e1
    exact ⟨rs[k], List.getElem?_eq_getElem hlt, e2⟩
  have mem : ∀ s ∈ rs, ∃ q ∈ qs, s.kind = q.kind ∧ s.name = q.name ∧ s.uses = q.uses := by
    intro s hs
    obtain ⟨k, hk⟩ := List.getElem?_of_mem hs
    obtain ⟨q, e1, e2⟩ := key k s hk
    exact ⟨q, List.mem_of_getElem? e1, e2⟩
  refine ⟨fun s hs hk => ?_, fun s hs hk => ?_, fun s hs => ?_, fun s hs x hx => ?_, fun i j s t hi hj hk hn => ?_⟩
  · obtain ⟨q, m, a, b, c⟩ := mem s hs
    rw [b]; exact hq.n13 q m (a ▸ hk)
  · obtain ⟨q, m, a, b, c⟩ := mem s hs
    rw [b]; exact hq.own q m (a ▸ hk)
  · obtain ⟨q, m, a, b, c⟩ := mem s hs
    rw [a, c]; exact hq.len q m
  · obtain ⟨q, m, a, b, c⟩ := mem s hs
    rw [c] at hx
    obtain ⟨t, t1, t2⟩ := hq.use q m x hx
    obtain ⟨u, u1, u2⟩ := back x t t1
    exact ⟨u, u1, by rw [u2]; exact t2⟩
  · obtain ⟨q, e1, a, b, _⟩ := key i s hi
    obtain ⟨r, e2, a', b', _⟩ := key j t hj
    exact hq.uniq i j q r e1 e2 (a ▸ hk) (by rw [← b, ← b', hn])
theorem twice_uniq {ls : List Ln} (h : twiceL ls = none) {i j : Nat} {l m : Ln} (hi : ls[i]? = some l) (hj : ls[j]? = some m) (hij : i < j) (hm : m.name ≠ []) : l.name ≠ m.name := by
  intro e
  have hjl := (List.getElem?_eq_some_iff.1 hj).1
  unfold twiceL at h
  rw [List.find?_eq_none] at h
  have := h j (List.mem_range.2 hjl)
  unfold twiceAt at this
  rw [hj] at this
  simp only at this
  apply this
  have hs : (ownerL (ls.take j) m.name).isSome = true := by
    unfold ownerL
    rw [List.findIdx?_isSome, List.any_eq_true]
    refine ⟨l, ?_, by simpa using e⟩
    have : (ls.take j)[i]? = some l := by rw [List.getElem?_take, if_pos hij]; exact hi
    exact List.mem_of_getElem? this
  rw [hs, Bool.and_true]
  cases hn : m.name with
  | nil => exact absurd hn hm
  | cons a b => rfl
theorem link_named {ls : List Ln} {qs : List St} (hn : ∀ l ∈ ls, NmLn l) (ht : twiceL ls = none) (h : linkL ls ls = .ok qs) : Named qs := by
  obtain ⟨hl, hj⟩ := link_joins h
  have key : ∀ (k : Nat) (s : St), qs[k]? = some s → ∃ l, ls[k]? = some l ∧ l ∈ ls ∧ Joins ls l s := by
    intro k s hs
    have hlt : k < ls.length := by rw [← hl]; exact (List.getElem?_eq_some_iff.1 hs).1
    have e := List.getElem?_eq_getElem hlt
    exact ⟨ls[k], e, List.getElem_mem _, hj k _ s e hs⟩
  have mem : ∀ s ∈ qs, ∃ l ∈ ls, Joins ls l s := by
    intro s hs
    obtain ⟨k, hk⟩ := List.getElem?_of_mem hs
    obtain ⟨l, _, m, j⟩ := key k s hk
    exact ⟨l, m, j⟩
  refine ⟨fun s hs hk => ?_, fun s hs hk => ?_, fun s hs => ?_, fun s hs x hx => ?_, fun i j s t hi hj' hk he => ?_⟩
  · obtain ⟨l, m, j1, j2, _⟩ := mem s hs
    rw [j2]; exact (hn l m).n13 (j1 ▸ hk)
  · obtain ⟨l, m, j1, j2, _⟩ := mem s hs
    rw [j2]; exact (hn l m).own (j1 ▸ hk)
  · obtain ⟨l, m, j1, j2, j3, _⟩ := mem s hs
    rw [j3, j1]; exact (hn l m).len
  · obtain ⟨l, m, j1, j2, j3, j4⟩ := mem s hs
    obtain ⟨t, t1, t2⟩ := j4 x hx
    have hxl : x < qs.length := by rw [hl]; exact (List.getElem?_eq_some_iff.1 t1).1
    refine ⟨qs[x], List.getElem?_eq_getElem hxl, fun h13 => ?_⟩
    obtain ⟨k1, k2, _⟩ := hj x t _ t1 (List.getElem?_eq_getElem hxl)
    have := (hn t (List.mem_of_getElem? t1)).n13 (k1 ▸ h13)
    exact (hn l m).use _ t2 this
  · obtain ⟨l, e1, m1, j1, j2, _⟩ := key i s hi
    obtain ⟨l', e2, m2, j1', j2', _⟩ := key j t hj'
    have hne : l.name ≠ [] := (hn l m1).own (j1 ▸ hk)
    have hee : l.name = l'.name := by rw [← j2, ← j2', he]
    rcases Nat.lt_trichotomy i j with q | q | q
    · exact absurd hee (twice_uniq ht e1 e2 q (by rw [← hee]; exact hne))
    · exact q
    · exact absurd hee.symm (twice_uniq ht e2 e1 q hne)
theorem twF_zero {ls : List Ln} (h : (twF ls).1 = 0) : twiceL ls = none := by
  unfold twF at h
  cases ht : twiceL ls with
  | none => rfl
  | some k => rw [ht] at h; cases h
theorem comp_named {t : List UInt8} {rs : List St} (h : compF t = .ok rs) : Named rs := by
  unfold compF at h
  cases hs : sourceL t with
  | error g => rw [hs] at h; cases h
  | ok ls =>
    rw [hs] at h
    simp only at h
    unfold makeF at h
    split at h
    · rename_i htw
      cases hk : linkL ls ls with
      | error g => rw [hk] at h; cases h
      | ok qs =>
        have hnm := link_named (source_nm hs) (twF_zero htw) hk
        rw [hk] at h
        simp only at h
        split at h
        · cases hv : solveL (qs.length + 1) (qs.map give) with
          | error g => rw [hv] at h; cases h
          | ok ts =>
            rw [hv] at h
            simp only at h
            split at h
            · cases h; exact Named.stat ((solve_stat hv).trans (give_stat qs)) hnm
            · cases h
        · cases h
    · cases h
end Go.Proofs.Ytfbkjopidjojeab

namespace Go.Proofs.Ytfbkjopidjojeab
open Go.RowKit

/-- A number goes round. -/
abbrev wr (z : Int) : Int := wrap64 z

/-- A step and what it has done in a run. -/
structure Tk where
  st : St
  list : List Int
  size : Int
  made : List Int
  most : Int
def Tk.bit (x : Tk) (t : Nat) : Bool := ckS x.st t

/-- What the k-th name has made. -/
def madeAt (ts : List Tk) (s : St) (k : Nat) : List Int := match s.uses[k]? with
  | none => []
  | some j => match ts[j]? with
    | none => []
    | some x => x.made
def usedL (ts : List Tk) (s : St) (k n : Nat) : Int := (madeAt ts s k).getD n 0
def lastL (ts : List Tk) (s : St) (k : Nat) : Int := (madeAt ts s k).getD ((madeAt ts s k).length - 1) 0
def quoL (a b : Int) : Int := if b = 0 then 0 else wr (a.tdiv b)
def lesL (a b : Int) : Int := if a < b then 1 else 0
def reckL (kind : Nat) (a b c : Int) : Int :=
  if kind = 3 then wr (a + b) else if kind = 4 then wr (a - b) else if kind = 5 then wr (a * b)
  else if kind = 6 then quoL a b else if kind = 7 then lesL a b
  else if kind = 8 then (if a ≠ 0 then b else c) else 0
/-- A step's next number. -/
def nextL (ts : List Tk) (x : Tk) : Int :=
  if x.st.kind = 1 then x.list.getD x.made.length 0
  else if x.st.kind = 2 then x.st.num
  else if x.st.kind = 9 then (if x.made.length = 0 then x.st.num else usedL ts x.st 0 (x.made.length - 1))
  else if x.st.kind = 12 then usedL ts x.st 0 x.made.length
  else if x.st.kind = 10 then lastL ts x.st 0
  else if x.st.kind = 11 then (if bitAt x.st.wd.1 x.st.wd.2 x.made.length then lastL ts x.st 0 else lastL ts x.st 1)
  else reckL x.st.kind (usedL ts x.st 0 x.made.length) (usedL ts x.st 1 x.made.length) (usedL ts x.st 2 x.made.length)
/-- One step's part of a tick. -/
def putL (t : Nat) (ts : List Tk) (k : Nat) : List Tk := match ts[k]? with
  | none => ts
  | some x => if x.bit t then ts.set k { x with made := x.made ++ [nextL ts x] } else ts
def tickL (t : Nat) (ts : List Tk) (ord : List Nat) : List Tk := ord.foldl (putL t) ts

def rchL (x : Tk) (t : Nat) : Nat := x.made.length + (x.bit t).toNat
/-- What a buffer will hold behind tick t. -/
def heldL (ts : List Tk) (x : Tk) (t : Nat) : Int := if x.st.kind = 12 ∧ x.st.uses.length = 1 then
    match x.st.uses[0]? with
    | none => 0
    | some j => match ts[j]? with
      | none => 0
      | some y => (rchL y t : Int) - (rchL x t : Int)
  else 0
def wantB (t : Nat) (x : Tk) : Bool := x.st.kind == 1 && x.bit t && decide (x.list.length ≤ x.made.length)
def wantsL (ts : List Tk) (t : Nat) : Bool := ts.any (wantB t)
def overB (ts : List Tk) (t : Nat) (x : Tk) : Bool := decide (x.size < heldL ts x t)
def overL (ts : List Tk) (t : Nat) : Bool := ts.any (overB ts t)
def noteX (ts : List Tk) (t : Nat) (x : Tk) : Tk := if x.most < heldL ts x t then { x with most := heldL ts x t } else x
def noteL (ts : List Tk) (t : Nat) : List Tk := ts.map (noteX ts t)

/-- A run: how it ends, behind how many ticks, and what was done. -/
def runL (ord : List Nat) : Nat → Nat → List Tk → Nat × Nat × List Tk
  | 0, t, ts => (1, t, ts)
  | f + 1, t, ts => if wantsL ts t then (2, t, ts) else if overL ts t then (3, t, ts) else runL ord f (t + 1) (tickL t (noteL ts t) ord)

/-- The numbers that come out. -/
def outsOf (ts : List Tk) (l : List Tk) : List (List Int) := (l.filter fun x => decide (x.st.kind = 13 ∧ x.st.uses.length = 1)).map fun x => madeAt ts x.st 0
/-- What buffers held at most. -/
def mostOf (l : List Tk) : List Int := (l.filter fun x => x.st.kind == 12).map Tk.most

/-- A step ahead of the first tick. -/
def tk0 (s : St) (ls : List (List Int)) (zs : List Int) : Tk := ⟨s, if s.kind = 1 then ls.headD [] else [], if s.kind = 12 then zs.headD 4096 else 4096, [], 0⟩
/-- What stands ahead of the first tick. -/
def beginL : List St → List (List Int) → List Int → List Tk
  | [], _, _ => []
  | s :: rs, ls, zs => tk0 s ls zs :: beginL rs (if s.kind = 1 then ls.drop 1 else ls) (if s.kind = 12 then zs.drop 1 else zs)
def cntL (rs : List St) (k : Nat) : Nat := (rs.filter fun s => s.kind == k).length
def szBad (z : Int) : Bool := decide (z < 0) || decide (1048576 < z)
/-- What is wrong with the arguments. -/
def refuseL (rs : List St) (n : Nat) (ticks : Int) (zs : Option (List Int)) : Nat :=
  if n ≠ cntL rs 1 then 11 else if ticks < 0 ∨ 4096 < ticks then 12 else match zs with
    | none => 0
    | some l => if l.length ≠ cntL rs 12 then 13 else if l.any szBad then 13 else 0

/-- An order of the steps in which each stands behind those on which it hangs at once. -/
structure OrdOk (qs : List St) (X : List Nat) : Prop where
  lt : ∀ x ∈ X, x < qs.length
  nodup : X.Nodup
  all : ∀ k, k < qs.length → k ∈ X
  topo : ∀ (i : Nat) (h : i < X.length), ∀ y, Edge qs X[i] y → y ∈ X.take i

theorem beginL_st : ∀ (rs : List St) (ls : List (List Int)) (zs : List Int), (beginL rs ls zs).map Tk.st = rs := by
  intro rs
  induction rs with
  | nil => intro ls zs; rfl
  | cons s rs ih => intro ls zs; simp [beginL, ih, tk0]
theorem beginL_mem : ∀ {rs : List St} {ls : List (List Int)} {zs : List Int} {x : Tk}, x ∈ beginL rs ls zs → x.made = [] ∧ x.most = 0 := by
  intro rs
  induction rs with
  | nil => intro ls zs x h; simp [beginL] at h
  | cons s rs ih =>
    intro ls zs x h
    rcases List.mem_cons.1 h with rfl | h
    · exact ⟨rfl, rfl⟩
    · exact ih h

/- One tick. -/
theorem putL_len (t : Nat) (ts : List Tk) (k : Nat) : (putL t ts k).length = ts.length := by
  unfold putL; split
  · rfl
  · split
    · simp
    · rfl
theorem putL_st (t : Nat) (ts : List Tk) (k : Nat) : (putL t ts k).map Tk.st = ts.map Tk.st := by
  unfold putL; split
  · rfl
  · rename_i x hx
    split
    · rw [List.map_set]
      apply List.ext_getElem?
      intro j
      by_cases hj : k = j
      · subst hj
        rw [List.getElem?_set_self (by simpa using (List.getElem?_eq_some_iff.1 hx).1), List.getElem?_map, hx]; rfl
      · rw [List.getElem?_set_ne hj]
    · rfl
theorem tickL_st (t : Nat) : ∀ (X : List Nat) (ts : List Tk), (tickL t ts X).map Tk.st = ts.map Tk.st := by
  intro X
  induction X with
  | nil => intro ts; rfl
  | cons a X ih => intro ts; show (tickL t (putL t ts a) X).map Tk.st = _; exact (ih _).trans (putL_st t ts a)
theorem putL_ne {t : Nat} {ts : List Tk} {k j : Nat} (h : j ≠ k) : (putL t ts k)[j]? = ts[j]? := by
  unfold putL; split
  · rfl
  · split
    · rw [List.getElem?_set_ne (Ne.symm h)]
    · rfl
theorem putL_eq {t : Nat} {ts : List Tk} {k : Nat} {x : Tk} (h : ts[k]? = some x) : (putL t ts k)[k]? = some { x with made := x.made ++ if x.bit t then [nextL ts x] else [] } := by
  unfold putL
  rw [h]
  simp only
  split
  · rename_i hb
    rw [List.getElem?_set_self (List.getElem?_eq_some_iff.1 h).1]
  · simp [h]
theorem tickL_ne {t : Nat} : ∀ {X : List Nat} {ts : List Tk} {j : Nat}, j ∉ X → (tickL t ts X)[j]? = ts[j]? := by
  intro X
  induction X with
  | nil => intro ts j _; rfl
  | cons a X ih =>
    intro ts j h
    have h1 : j ≠ a := fun e => h (by simp [e])
    have h2 : j ∉ X := fun e => h (by simp [e])
    show (tickL t (putL t ts a) X)[j]? = _
    rw [ih h2, putL_ne h1]
theorem tickL_append (t : Nat) (ts : List Tk) (X Y : List Nat) : tickL t ts (X ++ Y) = tickL t (tickL t ts X) Y := by
  unfold tickL; rw [List.foldl_append]
/-- What the k-th in the order makes. -/
theorem tickL_at {t : Nat} {X : List Nat} {ts : List Tk} (hn : X.Nodup) {i : Nat} (hi : i < X.length) {x : Tk} (hx : ts[X[i]]? = some x) :
    (tickL t ts X)[X[i]]? = some { x with made := x.made ++ if x.bit t then [nextL (tickL t ts (X.take i)) x] else [] } := by
  have hn2 : (X.take i ++ (X[i] :: X.drop (i + 1))).Nodup := by rw [← List.drop_eq_getElem_cons hi, List.take_append_drop]; exact hn
  rw [List.nodup_append] at hn2
  obtain ⟨_, h2, h3⟩ := hn2
  have hnp : X[i] ∉ X.take i := fun hm => h3 _ hm X[i] List.mem_cons_self rfl
  have hns : X[i] ∉ X.drop (i + 1) := (List.nodup_cons.1 h2).1
  have h1 : (tickL t ts (X.take i))[X[i]]? = some x := by rw [tickL_ne hnp]; exact hx
  have eT : tickL t ts X = tickL t (putL t (tickL t ts (X.take i)) X[i]) (X.drop (i + 1)) := by
    show _ = tickL t (tickL t ts (X.take i)) (X[i] :: X.drop (i + 1))
    rw [← tickL_append, ← List.drop_eq_getElem_cons hi, List.take_append_drop]
  rw [eT, tickL_ne hns, putL_eq h1]

/-- How things stand ahead of tick t. -/
structure At (rs : List St) (t : Nat) (ts : List Tk) : Prop where
  st : ts.map Tk.st = rs
  len : ∀ x ∈ ts, x.made.length = ones (ckS x.st) t
theorem At.len_eq {rs : List St} {t : Nat} {ts : List Tk} (h : At rs t ts) : ts.length = rs.length := by have := congrArg List.length h.st; simpa using this
theorem At.get {rs : List St} {t : Nat} {ts : List Tk} (h : At rs t ts) {k : Nat} {x : Tk} (hx : ts[k]? = some x) : rs[k]? = some x.st := by
  rw [← h.st, List.getElem?_map, hx]; rfl
theorem At.mem {rs : List St} {t : Nat} {ts : List Tk} (h : At rs t ts) {x : Tk} (hx : x ∈ ts) : x.st ∈ rs := by
  obtain ⟨k, hk⟩ := List.getElem?_of_mem hx
  exact List.mem_of_getElem? (h.get hk)

theorem nextL_same {ts us : List Tk} {x : Tk} (h : ∀ k, madeAt ts x.st k = madeAt us x.st k) : nextL ts x = nextL us x := by
  unfold nextL usedL lastL
  rw [h 0, h 1, h 2]
theorem nextL_fby {ts us : List Tk} {x : Tk} (hk : x.st.kind = 9) (h : x.made.length ≠ 0 → usedL ts x.st 0 (x.made.length - 1) = usedL us x.st 0 (x.made.length - 1)) : nextL ts x = nextL us x := by
  unfold nextL
  rw [hk]
  simp only [show (9 : Nat) ≠ 1 by decide, show (9 : Nat) ≠ 2 by decide, if_true, if_false]
  split
  · rfl
  · rename_i h0; exact h h0

/-- What a tick does: each step whose clock has a 1 makes the next number, of what stands behind the tick. -/
structure Ticked (t : Nat) (ts us : List Tk) : Prop where
  len : us.length = ts.length
  each : ∀ (k : Nat) (x : Tk), ts[k]? = some x → us[k]? = some { x with made := x.made ++ if x.bit t then [nextL us x] else [] }

theorem madeAt_of {ts : List Tk} {s : St} {k j : Nat} {x : Tk} (h1 : s.uses[k]? = some j) (h2 : ts[j]? = some x) : madeAt ts s k = x.made := by
  unfold madeAt; simp only [h1, h2]
theorem madeAt_none {ts : List Tk} {s : St} {k : Nat} (h1 : s.uses[k]? = none) : madeAt ts s k = [] := by
  unfold madeAt; simp only [h1]
theorem madeAt_congr {ts us : List Tk} {s : St} {k : Nat} (h : ∀ j, s.uses[k]? = some j → ts[j]? = us[j]?) : madeAt ts s k = madeAt us s k := by
  unfold madeAt
  cases hu : s.uses[k]? with
  | none => rfl
  | some j => simp only [h j hu]

theorem tick_ticked {rs : List St} {t : Nat} {ts : List Tk} {X : List Nat} (hat : At rs t ts) (ho : OrdOk rs X) (hp : Prog rs) (hn : Named rs) (hc : Clk rs) : Ticked t ts (tickL t ts X) := by
  refine ⟨by have := congrArg List.length (tickL_st t X ts); simpa using this, fun k x hx => ?_⟩
  have hk : k < ts.length := (List.getElem?_eq_some_iff.1 hx).1
  obtain ⟨i, hi, hik⟩ := List.getElem_of_mem (ho.all k (by rw [← hat.len_eq]; exact hk))
  subst hik
  rw [tickL_at ho.nodup hi hx]
  suffices hs : nextL (tickL t ts (X.take i)) x = nextL (tickL t ts X) x by rw [hs]
  have hrs := hat.get hx
  have eX : tickL t ts X = tickL t (tickL t ts (X.take i)) (X.drop i) := by rw [← tickL_append, List.take_append_drop]
  by_cases h9 : x.st.kind = 9
  · refine nextL_fby h9 fun h0 => ?_
    have hmem := List.mem_of_getElem? hrs
    have hul : x.st.uses.length = 1 := by rw [hn.len _ hmem, h9]; decide
    obtain ⟨j, hj⟩ : ∃ j, x.st.uses[0]? = some j := ⟨x.st.uses[0], List.getElem?_eq_getElem (by omega)⟩
    have hjm : j ∈ x.st.uses := List.mem_of_getElem? hj
    have hjl : j < ts.length := by rw [hat.len_eq]; exact (hp.wf _ hmem).use j hjm
    have hy := List.getElem?_eq_getElem hjl
    have hyr := hat.get hy
    have hck : ts[j].st.ck = x.st.ck := by
      have := hc.even _ hmem (by rw [h9]; decide) 0 (by omega)
      unfold ucL at this
      rw [hj] at this
      simp only [hyr] at this
      exact this
    have hlen : ts[j].made.length = x.made.length := by
      rw [hat.len _ (List.getElem_mem _), hat.len _ (List.mem_of_getElem? hx)]
      unfold ckS; rw [hck]
    have stable : ∀ Y : List Nat, Y.Nodup → usedL (tickL t ts Y) x.st 0 (x.made.length - 1) = ts[j].made.getD (x.made.length - 1) 0 := by
      intro Y hY
      unfold usedL
      by_cases hjY : j ∈ Y
      · obtain ⟨m, hm, hmj⟩ := List.getElem_of_mem hjY
        have := tickL_at (t := t) (ts := ts) hY hm (x := ts[j]) (by rw [hmj]; exact hy)
        rw [hmj] at this
        rw [madeAt_of hj this]
        simp only [List.getD_eq_getElem?_getD]
        rw [List.getElem?_append_left (by omega)]
      · rw [madeAt_of hj ((tickL_ne hjY).trans hy)]
    rw [stable _ ((List.take_sublist i X).nodup ho.nodup), stable _ ho.nodup]
  · refine nextL_same fun k => madeAt_congr fun j hj => ?_
    have hm : j ∈ X.take i := ho.topo i hi j ⟨x.st, hrs, h9, List.mem_of_getElem? hj⟩
    rw [eX]
    refine (tickL_ne fun hd => ?_).symm
    have hnd := ho.nodup
    rw [← List.take_append_drop i X, List.nodup_append] at hnd
    exact hnd.2.2 j hm j hd rfl
theorem Ticked.at {rs : List St} {t : Nat} {ts us : List Tk} (h : Ticked t ts us) (hat : At rs t ts) : At rs (t + 1) us := by
  have e : ∀ k : Nat, us[k]? = (ts[k]?).map fun (x : Tk) => { x with made := x.made ++ if x.bit t then [nextL us x] else [] } := by
    intro k
    cases hk : ts[k]? with
    | none =>
      rw [List.getElem?_eq_none_iff] at hk
      rw [List.getElem?_eq_none_iff.2 (by rw [h.len]; exact hk)]; rfl
    | some x => rw [h.each k x hk]; rfl
  constructor
  · rw [← hat.st]
    apply List.ext_getElem?
    intro k
    rw [List.getElem?_map, List.getElem?_map, e k]
    cases ts[k]? <;> rfl
  · intro y hy
    obtain ⟨k, hk⟩ := List.getElem?_of_mem hy
    rw [e k] at hk
    cases hx : ts[k]? with
    | none => rw [hx] at hk; cases hk
    | some x =>
      rw [hx] at hk
      simp only [Option.map_some, Option.some.injEq] at hk
      subst hk
      have hl := hat.len x (List.mem_of_getElem? hx)
      show (x.made ++ _).length = ones (ckS x.st) (t + 1)
      rw [List.length_append, hl, ones]
      unfold Tk.bit
      cases ckS x.st t <;> simp
end Go.Proofs.Ytfbkjopidjojeab

namespace Go.Proofs.Ytfbkjopidjojeab
open Go.RowKit

theorem pigeon : ∀ (n : Nat) (f : Nat → Nat), (∀ i, i ≤ n → f i < n) → ∃ i j, i < j ∧ j ≤ n ∧ f i = f j := by
  intro n
  induction n with
  | zero => intro f h; exact absurd (h 0 (Nat.le_refl _)) (Nat.not_lt_zero _)
  | succ n ih =>
    intro f h
    by_cases hv : ∃ i, i ≤ n ∧ f i = f (n + 1)
    · obtain ⟨i, h1, h2⟩ := hv
      exact ⟨i, n + 1, by omega, Nat.le_refl _, h2⟩
    · have hv' : ∀ i, i ≤ n → f i ≠ f (n + 1) := fun i hi e => hv ⟨i, hi, e⟩
      obtain ⟨i, j, h1, h2, h3⟩ := ih (fun i => if f i = n then f (n + 1) else f i) (fun i hi => by
        have a := h i (by omega)
        have b := h (n + 1) (Nat.le_refl _)
        have c := hv' i hi
        by_cases hq : f i = n
        · simp only [hq, if_true]; omega
        · simp only [hq, if_false]; omega)
      refine ⟨i, j, h1, by omega, ?_⟩
      have a := hv' i (by omega)
      have b := hv' j h2
      by_cases hi : f i = n
      · by_cases hj : f j = n
        · omega
        · rw [if_pos hi, if_neg hj] at h3; exact absurd h3.symm b
      · by_cases hj : f j = n
        · rw [if_neg hi, if_pos hj] at h3; exact absurd h3 a
        · rw [if_neg hi, if_neg hj] at h3; exact h3
/-- The i-th after k. -/
def iter (g : Nat → Nat) (k : Nat) : Nat → Nat
  | 0 => k
  | i + 1 => g (iter g k i)
theorem all_stand {qs : List St} {n : Nat} (hac : ∀ k, ¬ Hangs qs k) (P : Nat → Prop) (hst : ∀ k, k < n → ¬ P k → ∃ y, y < n ∧ Edge qs k y ∧ ¬ P y) : ∀ k, k < n → P k := by
  intro k0 hk0
  refine Classical.byContradiction fun hP => ?_
  have hex : ∀ k : Nat, ∃ y : Nat, k < n → ¬ P k → y < n ∧ Edge qs k y ∧ ¬ P y := by
    intro k
    rcases Classical.em (k < n ∧ ¬ P k) with h | h
    · obtain ⟨y, hy⟩ := hst k h.1 h.2
      exact ⟨y, fun _ _ => hy⟩
    · exact ⟨0, fun h1 h2 => absurd ⟨h1, h2⟩ h⟩
  obtain ⟨g, hg⟩ := Classical.axiomOfChoice hex
  have hin : ∀ i, iter g k0 i < n ∧ ¬ P (iter g k0 i) := by
    intro i
    induction i with
    | zero => exact ⟨hk0, hP⟩
    | succ i ih => exact ⟨(hg _ ih.1 ih.2).1, (hg _ ih.1 ih.2).2.2⟩
  have hed : ∀ i, Edge qs (iter g k0 i) (iter g k0 (i + 1)) := fun i => (hg _ (hin i).1 (hin i).2).2.1
  obtain ⟨i, j, hij, _, he⟩ := pigeon n (iter g k0) (fun i _ => (hin i).1)
  have hr : ∀ d, Reach qs (iter g k0 i) (iter g k0 (i + d + 1)) := by
    intro d
    induction d with
    | zero => exact .one (hed i)
    | succ d ih => exact .more ih (hed (i + d + 1))
  have := hr (j - i - 1)
  rw [show i + (j - i - 1) + 1 = j by omega, ← he] at this
  exact hac _ this

/-- Do all on which a step hangs at once stand already? -/
def readyB (M : List Bool) (s : St) : Bool := decide (s.kind = 9) || s.uses.all fun j => M.getD j false
/-- What is known while the order is found. -/
structure OInv (qs : List St) (n : Nat) (M : List Bool) (X : List Nat) : Prop where
  len : M.length = n
  qlen : qs.length = n
  lt : ∀ x ∈ X, x < n
  nodup : X.Nodup
  met : ∀ y, M[y]? = some true ↔ y ∈ X
  topo : ∀ (i : Nat) (h : i < X.length), ∀ y, Edge qs X[i] y → y ∈ X.take i
  cnt : X.length = M.count true
theorem OInv.start (qs : List St) : OInv qs qs.length (List.replicate qs.length false) [] := by
  refine ⟨by simp, rfl, by simp, by simp, fun y => ?_, fun i h => by simp at h, ?_⟩
  · simp only [List.not_mem_nil, iff_false]
    intro h
    have := List.mem_of_getElem? h
    rw [List.mem_replicate] at this
    cases this.2
  · rw [List.length_nil]; symm; rw [List.count_eq_zero]
    intro h
    rw [List.mem_replicate] at h
    cases h.2
theorem OInv.bound {qs : List St} {n : Nat} {M : List Bool} {X : List Nat} (h : OInv qs n M X) : X.length ≤ n := by
  have := List.count_le_length (a := true) (l := M)
  have := h.len; have := h.cnt; omega
theorem OInv.getD {qs : List St} {n : Nat} {M : List Bool} {X : List Nat} (h : OInv qs n M X) (y : Nat) : M.getD y false = true ↔ y ∈ X := by
  rw [← h.met y, List.getD_eq_getElem?_getD]
  cases M[y]? with
  | none => simp
  | some b => cases b <;> simp
theorem OInv.add {qs : List St} {n : Nat} {M : List Bool} {X : List Nat} (h : OInv qs n M X) {k : Nat} {s : St} (hk : qs[k]? = some s) (hm : M.getD k false = false) (hr : readyB M s = true) : OInv qs n (M.set k true) (X ++ [k]) := by
  have hkn : k < n := by rw [← h.qlen]; exact (List.getElem?_eq_some_iff.1 hk).1
  have hkM : k < M.length := by rw [h.len]; exact hkn
  have hnot : k ∉ X := fun hx => by rw [(h.getD k).2 hx] at hm; cases hm
  have hm2 : M[k]? = some false := by
    rw [List.getD_eq_getElem?_getD, List.getElem?_eq_getElem hkM] at hm
    rw [List.getElem?_eq_getElem hkM]; simpa using hm
  refine ⟨by rw [List.length_set]; exact h.len, h.qlen, fun x hx => ?_, ?_, fun y => ?_, fun i hi y he => ?_, by rw [count_set hm2]; simp; exact h.cnt⟩
  · rcases List.mem_append.1 hx with hx | hx
    · exact h.lt x hx
    · rw [List.mem_singleton.1 hx]; exact hkn
  · rw [List.nodup_append]
    refine ⟨h.nodup, by simp, fun a ha b hb e => ?_⟩
    rw [List.mem_singleton.1 hb] at e
    exact hnot (e ▸ ha)
  · by_cases hy : k = y
    · subst hy
      rw [List.getElem?_set_self hkM]; simp
    · rw [List.getElem?_set_ne hy, h.met y]; simp [Ne.symm hy]
  · rw [List.length_append, List.length_singleton] at hi
    by_cases hl : i < X.length
    · rw [List.getElem_append_left hl] at he
      rw [List.take_append_of_le_length (by omega)]
      exact h.topo i hl y he
    · have hie : i = X.length := by omega
      subst hie
      rw [List.getElem_append_right (Nat.le_refl _)] at he
      simp only [Nat.sub_self, List.getElem_singleton] at he
      rw [List.take_left']
      · obtain ⟨s', e1, e2, e3⟩ := he
        rw [hk] at e1; injection e1 with e1; subst e1
        unfold readyB at hr
        rw [decide_eq_false e2, Bool.false_or] at hr
        have := List.all_eq_true.1 hr y e3
        exact (h.getD y).1 this
      · rfl
/-- Nothing more can be put into the order. -/
def Stuck (qs : List St) (M : List Bool) (k : Nat) : Prop := ∀ (j : Nat) (s : St), j < k → qs[j]? = some s → M.getD j false = true ∨ readyB M s = false
theorem Stuck.start (qs : List St) (M : List Bool) : Stuck qs M 0 := fun j s h => by omega
theorem Stuck.next {qs : List St} {M : List Bool} {k : Nat} {s : St} (h : Stuck qs M k) (hk : qs[k]? = some s) (hs : M.getD k false = true ∨ readyB M s = false) : Stuck qs M (k + 1) := by
  intro j s' hj hq
  rcases Nat.lt_or_ge j k with q | q
  · exact h j s' q hq
  · have : j = k := by omega
    subst this
    rw [hk] at hq; injection hq with hq; subst hq; exact hs
theorem OInv.ord {qs : List St} {n : Nat} {M : List Bool} {X : List Nat} (h : OInv qs n M X) (hw : Wf qs) (hac : ∀ k, ¬ Hangs qs k) (hs : Stuck qs M n) : OrdOk qs X := by
  refine ⟨fun x hx => by rw [h.qlen]; exact h.lt x hx, h.nodup, ?_, h.topo⟩
  rw [h.qlen]
  refine all_stand (qs := qs) hac (fun k => k ∈ X) fun k hk hnot => ?_
  have hkq : k < qs.length := by rw [h.qlen]; exact hk
  have hg := List.getElem?_eq_getElem hkq
  rcases hs k _ hk hg with q | q
  · exact absurd ((h.getD k).1 q) hnot
  · unfold readyB at q
    rw [Bool.or_eq_false_iff] at q
    obtain ⟨q1, q2⟩ := q
    rw [List.all_eq_false] at q2
    obtain ⟨y, hy, hyf⟩ := q2
    refine ⟨y, ?_, ⟨qs[k], hg, of_decide_eq_false q1, hy⟩, fun hx => hyf ((h.getD y).2 hx)⟩
    have := (hw qs[k] (List.getElem_mem _)).use y hy
    rwa [h.qlen] at this
/-- How far one time through has come. -/
structure OPass (qs : List St) (n : Nat) (X0 : List Nat) (b : Bool) (k : Nat) (M : List Bool) (X : List Nat) : Prop where
  inv : OInv qs n M X
  more : b = true → X0.length < X.length
  none : b = false → X0.length = X.length ∧ Stuck qs M k
theorem OPass.skip {qs : List St} {n : Nat} {X0 : List Nat} {b : Bool} {k : Nat} {M : List Bool} {X : List Nat} {s : St} (h : OPass qs n X0 b k M X) (hk : qs[k]? = some s) (hs : M.getD k false = true ∨ readyB M s = false) : OPass qs n X0 b (k + 1) M X :=
  ⟨h.inv, h.more, fun e => ⟨(h.none e).1, (h.none e).2.next hk hs⟩⟩
theorem OPass.add {qs : List St} {n : Nat} {X0 : List Nat} {b : Bool} {k : Nat} {M : List Bool} {X : List Nat} {s : St} (h : OPass qs n X0 b k M X) (hk : qs[k]? = some s) (hm : M.getD k false = false) (hr : readyB M s = true) : OPass qs n X0 true (k + 1) (M.set k true) (X ++ [k]) := by
  refine ⟨h.inv.add hk hm hr, fun _ => ?_, fun e => by cases e⟩
  rw [List.length_append, List.length_singleton]
  cases b with
  | true => have := h.more rfl; omega
  | false => have := (h.none rfl).1; omega
end Go.Proofs.Ytfbkjopidjojeab

namespace Go.Proofs.Ytfbkjopidjojeab
open Go.RowKit

/-- What stands ahead of tick t, if no tick ahead ends the run. -/
def simL (X : List Nat) (ts : List Tk) : Nat → List Tk
  | 0 => ts
  | t + 1 => tickL t (noteL (simL X ts t) t) X
theorem noteX_st (ts : List Tk) (t : Nat) (x : Tk) : (noteX ts t x).st = x.st ∧ (noteX ts t x).list = x.list ∧ (noteX ts t x).size = x.size ∧ (noteX ts t x).made = x.made := by
  unfold noteX; split <;> exact ⟨rfl, rfl, rfl, rfl⟩
theorem At.note {rs : List St} {t : Nat} {ts : List Tk} (h : At rs t ts) : At rs t (noteL ts t) := by
  constructor
  · rw [← h.st]; unfold noteL; rw [List.map_map]
    apply List.map_congr_left
    intro x _; exact (noteX_st ts t x).1
  · intro y hy
    obtain ⟨x, hx, rfl⟩ := List.mem_map.1 hy
    rw [(noteX_st ts t x).2.2.2, (noteX_st ts t x).1]; exact h.len x hx
theorem begin_at (rs : List St) (ls : List (List Int)) (zs : List Int) : At rs 0 (beginL rs ls zs) :=
  ⟨beginL_st rs ls zs, fun x hx => by rw [(beginL_mem hx).1]; rfl⟩

/-- All that must be known of a program. -/
structure Good (rs : List St) : Prop where
  prog : Prog rs
  named : Named rs
  clk : Clk rs
theorem comp_good {t : List UInt8} {rs : List St} (h : compF t = .ok rs) : Good rs := ⟨comp_prog h, comp_named h, prog_clk (comp_prog h) (comp_from h)⟩

theorem sim_step {rs : List St} (hg : Good rs) {X : List Nat} (ho : OrdOk rs X) {ts : List Tk} {t : Nat} (h : At rs t (simL X ts t)) : Ticked t (noteL (simL X ts t) t) (simL X ts (t + 1)) :=
  tick_ticked h.note ho hg.prog hg.named hg.clk
theorem sim_at {rs : List St} (hg : Good rs) {X : List Nat} (ho : OrdOk rs X) {ts : List Tk} (h : At rs 0 ts) : ∀ t, At rs t (simL X ts t) := by
  intro t
  induction t with
  | zero => exact h
  | succ t ih => exact (sim_step hg ho ih).at ih.note

/-- How a run goes. -/
theorem run_char (X : List Nat) (ts : List Tk) : ∀ (f t : Nat), ∃ e m, runL X f t (simL X ts t) = (e, m, simL X ts m) ∧ t ≤ m ∧ m ≤ t + f ∧
    (∀ j, t ≤ j → j < m → wantsL (simL X ts j) j = false ∧ overL (simL X ts j) j = false) ∧
    ((e = 1 ∧ m = t + f) ∨ (e = 2 ∧ m < t + f ∧ wantsL (simL X ts m) m = true) ∨ (e = 3 ∧ m < t + f ∧ wantsL (simL X ts m) m = false ∧ overL (simL X ts m) m = true)) := by
  intro f
  induction f with
  | zero => intro t; exact ⟨1, t, rfl, Nat.le_refl _, Nat.le_refl _, fun j h1 h2 => by omega, .inl ⟨rfl, rfl⟩⟩
  | succ f ih =>
    intro t
    rw [runL]
    by_cases hw : wantsL (simL X ts t) t = true
    · rw [if_pos hw]
      exact ⟨2, t, rfl, Nat.le_refl _, by omega, fun j h1 h2 => by omega, .inr (.inl ⟨rfl, by omega, hw⟩)⟩
    · rw [if_neg hw]
      have hw' : wantsL (simL X ts t) t = false := by simpa using hw
      by_cases hov : overL (simL X ts t) t = true
      · rw [if_pos hov]
        exact ⟨3, t, rfl, Nat.le_refl _, by omega, fun j h1 h2 => by omega, .inr (.inr ⟨rfl, by omega, hw', hov⟩)⟩
      · rw [if_neg hov]
        have hov' : overL (simL X ts t) t = false := by simpa using hov
        obtain ⟨e, m, h1, h2, h3, h4, h5⟩ := ih (t + 1)
        refine ⟨e, m, h1, by omega, by omega, fun j q1 q2 => ?_, ?_⟩
        · rcases Nat.eq_or_lt_of_le q1 with q | q
          · subst q; exact ⟨hw', hov'⟩
          · exact h4 j q q2
        · rcases h5 with ⟨a, b⟩ | ⟨a, b, c⟩ | ⟨a, b, c⟩
          · exact .inl ⟨a, by omega⟩
          · exact .inr (.inl ⟨a, by omega, c⟩)
          · exact .inr (.inr ⟨a, by omega, c⟩)

/-- What stays, and what is known of the numbers held. -/
structure SimX (rs : List St) (t : Nat) (x0 x : Tk) : Prop where
  st : x.st = x0.st
  list : x.list = x0.list
  size : x.size = x0.size
  most : x.most = if x0.st.kind = 12 then mx (bitAt (ucL rs x0.st 0).1 (ucL rs x0.st 0).2) (ckS x0.st) t else x0.most
  len : x.made.length = ones (ckS x0.st) t
theorem held_at {rs : List St} (hg : Good rs) {t : Nat} {ts : List Tk} (h : At rs t ts) {x : Tk} (hx : x ∈ ts) :
    heldL ts x t = if x.st.kind = 12 then dif (bitAt (ucL rs x.st 0).1 (ucL rs x.st 0).2) (ckS x.st) (t + 1) else 0 := by
  have hm := h.mem hx
  by_cases h12 : x.st.kind = 12
  · have hul : x.st.uses.length = 1 := by rw [hg.named.len _ hm, h12]; decide
    unfold heldL
    rw [if_pos ⟨h12, hul⟩, if_pos h12]
    obtain ⟨j, hj⟩ : ∃ j, x.st.uses[0]? = some j := ⟨x.st.uses[0], List.getElem?_eq_getElem (by omega)⟩
    have hjl : j < ts.length := by rw [h.len_eq]; exact (hg.prog.wf _ hm).use j (List.mem_of_getElem? hj)
    have hy := List.getElem?_eq_getElem hjl
    have hyr := h.get hy
    simp only [hj, hy]
    have hu : ucL rs x.st 0 = ts[j].st.ck := by unfold ucL; simp only [hj, hyr]
    rw [hu]
    unfold rchL dif
    rw [h.len _ (List.getElem_mem _), h.len _ hx]
    rfl
  · unfold heldL
    rw [if_neg (fun e => h12 e.1), if_neg h12]
theorem sim_x {rs : List St} (hg : Good rs) {X : List Nat} (ho : OrdOk rs X) {ts : List Tk} (h : At rs 0 ts) (hm0 : ∀ x ∈ ts, x.most = 0) {k : Nat} {x0 : Tk} (hx : ts[k]? = some x0) : ∀ t, ∃ x, (simL X ts t)[k]? = some x ∧ SimX rs t x0 x := by
  intro t
  induction t with
  | zero =>
    refine ⟨x0, hx, rfl, rfl, rfl, ?_, ?_⟩
    · have := hm0 x0 (List.mem_of_getElem? hx)
      split
      · rw [this]; rfl
      · rfl
    · have := h.len x0 (List.mem_of_getElem? hx); rw [this]
  | succ t ih =>
    obtain ⟨x, hxt, hs⟩ := ih
    have hat := sim_at hg ho h t
    have hn : (noteL (simL X ts t) t)[k]? = some (noteX (simL X ts t) t x) := by unfold noteL; rw [List.getElem?_map, hxt]; rfl
    have hstep := (sim_step hg ho hat).each k _ hn
    obtain ⟨n1, n2, n3, n4⟩ := noteX_st (simL X ts t) t x
    have hat2 := sim_at hg ho h (t + 1)
    have hl := hat2.len _ (List.mem_of_getElem? hstep)
    refine ⟨_, hstep, n1.trans hs.st, n2.trans hs.list, n3.trans hs.size, ?_, ?_⟩
    · show (noteX (simL X ts t) t x).most = _
      have hh := held_at hg hat (List.mem_of_getElem? hxt)
      rw [hs.st] at hh
      have hmo := hs.most
      by_cases h12 : x0.st.kind = 12
      · rw [if_pos h12] at hh hmo ⊢
        unfold noteX
        rw [hh, hmo, mx]
        split
        · rename_i q
          show dif _ _ _ = _
          omega
        · rename_i q
          show x.most = _
          rw [hmo]; omega
      · rw [if_neg h12] at hh hmo ⊢
        unfold noteX
        rw [hh, hmo]
        have := hm0 x0 (List.mem_of_getElem? hx)
        rw [this, if_neg (by omega), hmo, this]
    · have hl2 : _ = ones (ckS (noteX (simL X ts t) t x).st) (t + 1) := hl
      rw [n1, hs.st] at hl2
      exact hl2
theorem sim_len {rs : List St} (hg : Good rs) {X : List Nat} (ho : OrdOk rs X) {ts : List Tk} (h : At rs 0 ts) (t : Nat) : (simL X ts t).length = ts.length := by
  rw [(sim_at hg ho h t).len_eq, h.len_eq]
/-- When a run wants a number. -/
theorem sim_wants {rs : List St} (hg : Good rs) {X : List Nat} (ho : OrdOk rs X) {ts : List Tk} (h : At rs 0 ts) (hm0 : ∀ x ∈ ts, x.most = 0) (t : Nat) :
    wantsL (simL X ts t) t = true ↔ ∃ x ∈ ts, x.st.kind = 1 ∧ ckS x.st t = true ∧ x.list.length ≤ ones (ckS x.st) t := by
  unfold wantsL
  rw [List.any_eq_true]
  constructor
  · rintro ⟨y, hy, hw⟩
    obtain ⟨k, hk⟩ := List.getElem?_of_mem hy
    have hkl : k < ts.length := by rw [← sim_len hg ho h t]; exact (List.getElem?_eq_some_iff.1 hk).1
    have hx := List.getElem?_eq_getElem hkl
    obtain ⟨x, e, s⟩ := sim_x hg ho h hm0 hx t
    rw [hk] at e; injection e with e; subst e
    unfold wantB at hw
    simp only [Bool.and_eq_true, beq_iff_eq, decide_eq_true_eq] at hw
    obtain ⟨⟨a, b⟩, c⟩ := hw
    unfold Tk.bit at b
    rw [s.st] at a b
    rw [s.list, s.len] at c
    exact ⟨_, List.getElem_mem hkl, a, b, c⟩
  · rintro ⟨x0, hx0, a, b, c⟩
    obtain ⟨k, hk⟩ := List.getElem?_of_mem hx0
    obtain ⟨x, e, s⟩ := sim_x hg ho h hm0 hk t
    refine ⟨x, List.mem_of_getElem? e, ?_⟩
    unfold wantB Tk.bit
    rw [s.st, s.list, s.len]
    simp [a, b, c]
/-- When a buffer would hold too much. -/
theorem sim_over {rs : List St} (hg : Good rs) {X : List Nat} (ho : OrdOk rs X) {ts : List Tk} (h : At rs 0 ts) (hm0 : ∀ x ∈ ts, x.most = 0) (hz : ∀ x ∈ ts, x.st.kind ≠ 12 → 0 ≤ x.size) (t : Nat) :
    overL (simL X ts t) t = true ↔ ∃ x ∈ ts, x.st.kind = 12 ∧ x.size < dif (bitAt (ucL rs x.st 0).1 (ucL rs x.st 0).2) (ckS x.st) (t + 1) := by
  unfold overL
  rw [List.any_eq_true]
  have hat := sim_at hg ho h t
  constructor
  · rintro ⟨y, hy, hw⟩
    obtain ⟨k, hk⟩ := List.getElem?_of_mem hy
    have hkl : k < ts.length := by rw [← sim_len hg ho h t]; exact (List.getElem?_eq_some_iff.1 hk).1
    have hx := List.getElem?_eq_getElem hkl
    obtain ⟨x, e, s⟩ := sim_x hg ho h hm0 hx t
    rw [hk] at e; injection e with e; subst e
    unfold overB at hw
    rw [decide_eq_true_eq, held_at hg hat hy, s.st, s.size] at hw
    by_cases h12 : ts[k].st.kind = 12
    · rw [if_pos h12] at hw
      exact ⟨_, List.getElem_mem hkl, h12, hw⟩
    · rw [if_neg h12] at hw
      have := hz _ (List.getElem_mem hkl) h12
      omega
  · rintro ⟨x0, hx0, a, b⟩
    obtain ⟨k, hk⟩ := List.getElem?_of_mem hx0
    obtain ⟨x, e, s⟩ := sim_x hg ho h hm0 hk t
    refine ⟨x, List.mem_of_getElem? e, ?_⟩
    unfold overB
    rw [decide_eq_true_eq, held_at hg hat (List.mem_of_getElem? e), s.st, s.size, if_pos a]
    exact b
end Go.Proofs.Ytfbkjopidjojeab

namespace Go.Proofs.Ytfbkjopidjojeab
open Go.RowKit

theorem outs_st {rs : List St} {ts : List Tk} (h : ts.map Tk.st = rs) : outsOf ts ts = (rs.filter fun s => decide (s.kind = 13 ∧ s.uses.length = 1)).map fun s => madeAt ts s 0 := by
  unfold outsOf
  rw [← h, List.filter_map, List.map_map]
  rfl
theorem sim_grow {rs : List St} (hg : Good rs) {X : List Nat} (ho : OrdOk rs X) {ts : List Tk} (h : At rs 0 ts) (t : Nat) {k : Nat} {x : Tk} (hx : (simL X ts t)[k]? = some x) :
    ∀ d, ∃ y, (simL X ts (t + d))[k]? = some y ∧ x.made <+: y.made := by
  intro d
  induction d with
  | zero => exact ⟨x, hx, List.prefix_refl _⟩
  | succ d ih =>
    obtain ⟨y, hy, hp⟩ := ih
    have hn : (noteL (simL X ts (t + d)) (t + d))[k]? = some (noteX (simL X ts (t + d)) (t + d) y) := by unfold noteL; rw [List.getElem?_map, hy]; rfl
    have hstep := (sim_step hg ho (sim_at hg ho h (t + d))).each k _ hn
    refine ⟨_, hstep, ?_⟩
    show x.made <+: (noteX (simL X ts (t + d)) (t + d) y).made ++ _
    rw [(noteX_st _ _ y).2.2.2]
    exact hp.trans (List.prefix_append _ _)
theorem sim_madeAt {rs : List St} (hg : Good rs) {X : List Nat} (ho : OrdOk rs X) {ts : List Tk} (h : At rs 0 ts) (t d : Nat) (s : St) (k : Nat) : madeAt (simL X ts t) s k <+: madeAt (simL X ts (t + d)) s k := by
  cases hu : s.uses[k]? with
  | none => rw [madeAt_none hu, madeAt_none hu]; exact List.prefix_refl _
  | some j =>
    cases hx : (simL X ts t)[j]? with
    | none => unfold madeAt; simp only [hu, hx]; exact List.nil_prefix
    | some x =>
      obtain ⟨y, hy, hp⟩ := sim_grow hg ho h t hx d
      rw [madeAt_of hu hx, madeAt_of hu hy]; exact hp
theorem sim_madeLen {rs : List St} (hg : Good rs) {X : List Nat} (ho : OrdOk rs X) {ts : List Tk} (h : At rs 0 ts) (t : Nat) {s u : St} {k j : Nat} (hu : s.uses[k]? = some j) (hj : rs[j]? = some u) : (madeAt (simL X ts t) s k).length = ones (ckS u) t := by
  have hat := sim_at hg ho h t
  have hl : j < (simL X ts t).length := by rw [hat.len_eq]; exact (List.getElem?_eq_some_iff.1 hj).1
  have hx := List.getElem?_eq_getElem hl
  rw [madeAt_of hu hx, hat.len _ (List.getElem_mem _)]
  have := hat.get hx
  rw [hj] at this; injection this with this; rw [this]

/-- The same numbers were made. -/
def Alike (ts us : List Tk) : Prop := ts.length = us.length ∧ ∀ (k : Nat) (x y : Tk), ts[k]? = some x → us[k]? = some y → x.st = y.st ∧ x.made = y.made
theorem Alike.madeAt {ts us : List Tk} (h : Alike ts us) (s : St) (k : Nat) : Go.Proofs.Ytfbkjopidjojeab.madeAt ts s k = Go.Proofs.Ytfbkjopidjojeab.madeAt us s k := by
  unfold Go.Proofs.Ytfbkjopidjojeab.madeAt
  cases s.uses[k]? with
  | none => rfl
  | some j =>
    simp only
    cases hx : ts[j]? with
    | none =>
      have : us[j]? = none := by rw [List.getElem?_eq_none_iff] at hx ⊢; rw [← h.1]; exact hx
      rw [this]
    | some x =>
      have hj : j < us.length := by rw [← h.1]; exact (List.getElem?_eq_some_iff.1 hx).1
      have hy := List.getElem?_eq_getElem hj
      rw [hy]
      exact (h.2 j x _ hx hy).2
theorem nextL_alike {ts us : List Tk} (h : Alike ts us) {x y : Tk} (h1 : x.st = y.st) (h2 : x.made = y.made) (h3 : x.st.kind = 1 → x.list.getD x.made.length 0 = y.list.getD y.made.length 0) : nextL ts x = nextL us y := by
  unfold nextL
  by_cases hk : x.st.kind = 1
  · rw [if_pos hk, if_pos (h1 ▸ hk)]; exact h3 hk
  · have hk' : ¬ y.st.kind = 1 := by rw [← h1]; exact hk
    rw [if_neg hk, if_neg (c := y.st.kind = 1) hk']
    unfold usedL lastL
    simp only [h.madeAt, h1, h2]
theorem tick_alike {t : Nat} {ts us : List Tk} (h : Alike ts us) (hl : ∀ (k : Nat) (x y : Tk), ts[k]? = some x → us[k]? = some y → x.bit t = true → x.st.kind = 1 → x.list.getD x.made.length 0 = y.list.getD y.made.length 0) :
    ∀ (n : Nat) (X : List Nat), X.Nodup → n ≤ X.length → Alike (tickL t ts (X.take n)) (tickL t us (X.take n)) := by
  intro n X hX
  induction n with
  | zero => intro _; exact h
  | succ n ih =>
    intro hn
    have ih := ih (by omega)
    have e : X.take (n + 1) = X.take n ++ [X[n]] := take_one (by omega)
    have hnot : X[n] ∉ X.take n := by
      have h2 := hX
      rw [← List.take_append_drop n X, List.nodup_append] at h2
      exact fun hm => h2.2.2 _ hm X[n] (by rw [List.drop_eq_getElem_cons (by omega)]; exact List.mem_cons_self) rfl
    rw [e, tickL_append, tickL_append]
    show Alike (putL t (tickL t ts (X.take n)) X[n]) (putL t (tickL t us (X.take n)) X[n])
    refine ⟨by rw [putL_len, putL_len]; exact ih.1, fun k x y hx hy => ?_⟩
    by_cases hk : k = X[n]
    · subst hk
      cases hx0 : (tickL t ts (X.take n))[X[n]]? with
      | none =>
        exfalso
        rw [List.getElem?_eq_none_iff] at hx0
        have := (List.getElem?_eq_some_iff.1 hx).1
        rw [putL_len] at this; omega
      | some x0 =>
        have hl2 : X[n] < (tickL t us (X.take n)).length := by rw [← ih.1]; exact (List.getElem?_eq_some_iff.1 hx0).1
        have hy0 := List.getElem?_eq_getElem hl2
        obtain ⟨a, b⟩ := ih.2 _ _ _ hx0 hy0
        rw [putL_eq hx0] at hx
        rw [putL_eq hy0] at hy
        injection hx with hx
        injection hy with hy
        have hbit : x0.bit t = ((tickL t us (X.take n))[X[n]]).bit t := by unfold Tk.bit; rw [a]
        subst hx; subst hy
        refine ⟨a, ?_⟩
        show _ ++ _ = _ ++ _
        rw [← hbit, b]
        cases hb : x0.bit t with
        | false => rfl
        | true =>
          have := nextL_alike ih a b fun h1 => by
            refine hl X[n] x0 _ ?_ ?_ hb h1
            · rw [← hx0]; exact (tickL_ne hnot).symm
            · rw [← hy0]; exact (tickL_ne hnot).symm
          simp only [if_true]
          rw [this]
    · rw [putL_ne hk] at hx hy
      exact ih.2 k x y hx hy
theorem note_alike {t : Nat} {ts us : List Tk} (h : Alike ts us) : Alike (noteL ts t) (noteL us t) := by
  refine ⟨by simp [noteL, h.1], fun k x y hx hy => ?_⟩
  unfold noteL at hx hy
  rw [List.getElem?_map] at hx hy
  cases hx0 : ts[k]? with
  | none => rw [hx0] at hx; cases hx
  | some x0 =>
    cases hy0 : us[k]? with
    | none => rw [hy0] at hy; cases hy
    | some y0 =>
      rw [hx0] at hx
      rw [hy0] at hy
      simp only [Option.map_some, Option.some.injEq] at hx hy
      subst hx; subst hy
      rw [(noteX_st _ _ _).1, (noteX_st _ _ _).1, (noteX_st _ _ _).2.2.2, (noteX_st _ _ _).2.2.2]
      exact h.2 k x0 y0 hx0 hy0
/-- Longer lists change nothing, as long as no number is wanted. -/
theorem sim_alike {rs : List St} (hg : Good rs) {X : List Nat} (ho : OrdOk rs X) {ts us : List Tk} (h : At rs 0 ts) (h' : At rs 0 us) (hm : ∀ x ∈ ts, x.most = 0) (hm' : ∀ x ∈ us, x.most = 0)
    (hl : ∀ (k : Nat) (x y : Tk), ts[k]? = some x → us[k]? = some y → x.made = y.made ∧ x.list <+: y.list) (n : Nat) (hw : ∀ x ∈ ts, x.st.kind = 1 → n ≤ x.list.length) : ∀ t, t ≤ n → Alike (simL X ts t) (simL X us t) := by
  intro t
  induction t with
  | zero =>
    intro _
    refine ⟨by show ts.length = us.length; rw [h.len_eq, h'.len_eq], fun k x y hx hy => ⟨?_, (hl k x y hx hy).1⟩⟩
    have a := h.get hx
    have b := h'.get hy
    rw [a] at b; injection b
  | succ t ih =>
    intro ht
    have ih := ih (by omega)
    have hmain := tick_alike (t := t) (note_alike (t := t) ih) (fun k x y hx hy hb h1 => by
      unfold noteL at hx hy
      rw [List.getElem?_map] at hx hy
      cases hx0 : (simL X ts t)[k]? with
      | none => rw [hx0] at hx; cases hx
      | some x0 =>
        cases hy0 : (simL X us t)[k]? with
        | none => rw [hy0] at hy; cases hy
        | some y0 =>
          rw [hx0] at hx
          rw [hy0] at hy
          simp only [Option.map_some, Option.some.injEq] at hx hy
          subst hx; subst hy
          have hkl : k < ts.length := by rw [← sim_len hg ho h t]; exact (List.getElem?_eq_some_iff.1 hx0).1
          have hkl' : k < us.length := by rw [h'.len_eq, ← h.len_eq]; exact hkl
          obtain ⟨x1, e1, s1⟩ := sim_x hg ho h hm (List.getElem?_eq_getElem hkl) t
          obtain ⟨y1, e2, s2⟩ := sim_x hg ho h' hm' (List.getElem?_eq_getElem hkl') t
          rw [hx0] at e1; injection e1 with e1; subst e1
          rw [hy0] at e2; injection e2 with e2; subst e2
          obtain ⟨_, hpre⟩ := hl k _ _ (List.getElem?_eq_getElem hkl) (List.getElem?_eq_getElem hkl')
          rw [(noteX_st _ _ _).1] at h1
          rw [(noteX_st _ _ _).2.1, (noteX_st _ _ _).2.1, (noteX_st _ _ _).2.2.2, (noteX_st _ _ _).2.2.2, s1.list, s2.list, s1.len, s2.len]
          have hst : us[k].st = ts[k].st := by
            have a := h.get (List.getElem?_eq_getElem hkl)
            have b := h'.get (List.getElem?_eq_getElem hkl')
            rw [a] at b; injection b with b; exact b.symm
          rw [hst]
          have hlen := hw _ (List.getElem_mem hkl) (by rw [s1.st] at h1; exact h1)
          have hone := ones_le (ckS ts[k].st) t
          obtain ⟨r, hr⟩ := hpre
          rw [← hr]
          simp only [List.getD_eq_getElem?_getD]
          rw [List.getElem?_append_left (by omega)]) X.length X ho.nodup (Nat.le_refl _)
    rw [List.take_length] at hmain
    exact hmain
end Go.Proofs.Ytfbkjopidjojeab

namespace Go.Proofs.Ytfbkjopidjojeab
open Go.RowKit

theorem Reads.cell' {w : World} {p : Option Addr} {n m c : Nat} {xs : List Value} (h : Reads w (.slice p m c) 1 n xs) (hn : 0 < n) : ∃ b off, p = some ⟨b, off, none⟩ ∧ b < w.heap.size ∧ ∀ i, i < n → w.cell? ⟨b, off + i, none⟩ = xs[i]? := by
  obtain ⟨hl, q, c', he, _, hrow⟩ := h
  injection he with he1 _ _
  rcases hrow with h | ⟨b, off, h1, h2⟩
  · omega
  · exact ⟨b, off, he1.trans h1, h2.1, fun i hi => h2.2 i (by omega)⟩
theorem bools_get {M : List Bool} {k : Nat} (h : k < M.length) : (bools M)[k]? = some (.bool (M.getD k false)) := by simp [bools, h]

set_option maxRecDepth 50000 in
set_option maxHeartbeats 1000000 in
theorem isReady_any (s : St) (up sp : Option Addr) (uc sc : Nat) (M : List Bool) (w : World) (hul : s.uses.length ≤ 1048575)
    (hu : Reads w (.slice up s.uses.length uc) 1 s.uses.length (ints s.uses)) (hux : ∀ x ∈ s.uses, x < M.length) (hM : Reads w (.slice sp M.length sc) 1 M.length (bools M)) :
    Calls Try.prog 69 #[.agg #[.int .i64 s.no, .int .i64 s.kind, .string (S s.name), .slice up s.uses.length uc, .int .i64 s.num, .string (bs s.wd.1), .string (bs s.wd.2), .string (bs s.ck.1), .string (bs s.ck.2)], .slice sp M.length sc] w fun e w' => e = .returned (.bool (readyB M s)) ∧ Below w.heap.size w w' := by
  by_cases h9 : s.kind = 9
  · have HR : Hid (readyB M s = true) := by show readyB M s = true; unfold readyB; rw [decide_eq_true h9]; rfl
    have g9 : ((s.kind : Int) == 9) = true := by simp; omega
    clear hu hux hM h9
    go_enter Try.func69, Try.ntmps69
    go_wp2
    go_ret
    exact ⟨ret_bool HR.out.symm, (Below.refl _ _).alloc (Nat.le_refl _) _⟩
  · have g9 : ((s.kind : Int) == 9) = false := by simp; omega
    have HA : Hid (readyB M s = s.uses.all fun j => M.getD j false) := by show readyB M s = _; unfold readyB; rw [decide_eq_false h9]; rfl
    clear h9
    go_enter Try.func69, Try.ntmps69
    go_wp2
    go_loop [5] (fun i => ∃ k : Nat, k ≤ s.uses.length ∧ i = .int .i64 k ∧ Hid (∀ j ∈ s.uses.take k, M.getD j false = true)) (fun i => s.uses.length - (intOf i).toNat)
    case atStart => exact ⟨0, Nat.zero_le _, rfl, fun j hj => by simp at hj⟩
    case round =>
      obtain ⟨k, hk, rfl, HB⟩ := hrel
      by_cases hlt : k < s.uses.length
      · obtain ⟨ub, uo, rfl, hub, hrw⟩ := hu.cell' (by omega)
        obtain ⟨j, hj⟩ : ∃ j, j = s.uses[k] := ⟨_, rfl⟩
        have hjl : j < M.length := by rw [hj]; exact hux _ (List.getElem_mem _)
        obtain ⟨sb, so, rfl, hsb, hsw⟩ := hM.cell' (by omega)
        have cu : w.cell? ⟨ub, uo + k, none⟩ = some (.int .i64 (j : Int)) := by rw [hrw k hlt, ints_get hlt, ← hj]
        have cm : w.cell? ⟨sb, so + j, none⟩ = some (.bool (M.getD j false)) := by rw [hsw j hjl, bools_get hjl]
        have HJ : Hid (j ∈ s.uses) := by show j ∈ s.uses; rw [hj]; exact List.getElem_mem _
        have HT : Hid (s.uses.take (k + 1) = s.uses.take k ++ [j]) := by show _ = _; rw [take_one hlt, ← hj]
        cases hmj : M.getD j false with
        | true =>
          rw [hmj] at cm
          have HB2 : Hid (∀ j ∈ s.uses.take (k + 1), M.getD j false = true) := by
            show ∀ j ∈ s.uses.take (k + 1), M.getD j false = true
            intro i hi
            rw [HT.out] at hi
            rcases List.mem_append.1 hi with hi | hi
            · exact HB.out i hi
            · rw [List.mem_singleton.1 hi]; exact hmj
          clear hrw hsw hu hM hux hj hmj
          go_wp2
          go_round
          case rel => exact ⟨k + 1, by omega, by go_num, HB2⟩
          case measure => simp [intOf]; omega
        | false =>
          rw [hmj] at cm
          have HR : Hid (readyB M s = false) := by
            show readyB M s = false
            rw [HA.out, List.all_eq_false]
            exact ⟨j, HJ.out, by rw [hmj]; simp⟩
          clear hrw hsw hu hM hux hj hmj
          go_wp2
          go_ret
          exact ⟨ret_bool HR.out.symm, (Below.refl _ _).alloc (Nat.le_refl _) _⟩
      · have HR : Hid (readyB M s = true) := by
          show readyB M s = true
          rw [HA.out, List.all_eq_true]
          intro i hi
          exact HB.out i (by rw [List.take_of_length_le (by omega)]; exact hi)
        clear hu hM hux
        go_wp2
        go_ret
        exact ⟨ret_bool HR.out.symm, (Below.refl _ _).alloc (Nat.le_refl _) _⟩

/-- The memory meanwhile. -/
structure OMem (w : World) (n : Nat) (W : World) (r : Value) (M : List Bool) (X : List Nat) : Prop where
  met : W.ownsRow w.heap.size 4 1 (.slice (some ⟨w.heap.size + 1, 0, none⟩) n n) n (bools M)
  walk : W.ownsRow w.heap.size 3 1 r X.length (ints X)
  bel : Below w.heap.size w W
theorem OMem.set {w W : World} {n : Nat} {r : Value} {M : List Bool} {X : List Nat} (h : OMem w n W r M X) (y : Nat) : OMem w n (W.setCell ⟨w.heap.size + 1, y, none⟩ (.bool true)) r (M.set y true) X := by
  obtain ⟨h1, g1⟩ := h.met.stored y (.bool true)
  refine ⟨?_, h.walk.kept g1 (own_ne h.walk h.met (by decide)), h.bel.setCell (by simp) _⟩
  have e : bools (M.set y true) = (bools M).set y (.bool true) := by simp [bools, List.map_set]
  rw [e]; exact h1
theorem OMem.below {w W W' : World} {n : Nat} {r : Value} {M : List Bool} {X : List Nat} (h : OMem w n W r M X) (hb : Below W.heap.size W W') : OMem w n W' r M X :=
  ⟨ownsRow_below h.met hb, ownsRow_below h.walk hb, h.bel.trans (hb.mono h.bel.size)⟩
theorem OMem.app {w W w' : World} {n : Nat} {r v' : Value} {M : List Bool} {X : List Nat} {y : Nat} {o : Obj} (h : OMem w n W r M X) (hown' : w'.ownsRow w.heap.size 3 1 v' (X.length + 1) (ints X ++ [.int .i64 y])) (hg : (W.alloc o).grownBy w' r.ownBlock) : OMem w n w' v' M (X ++ [y]) := by
  have hm := h.met.alloc o
  have hw := h.walk.alloc o
  refine ⟨hm.kept hg (own_ne hm hw (by decide)), by simpa [ints] using hown', ?_⟩
  exact (h.bel.alloc h.bel.size o).grown hg (by simp; have := h.bel.size; omega) (fun j hj => (h.walk.lt j hj).1)
theorem OMem.mc {w W : World} {n : Nat} {r : Value} {M : List Bool} {X : List Nat} (h : OMem w n W r M X) {y : Nat} (hl : M.length = n) (hn : y < n) : W.cell? ⟨w.heap.size + 1, y, none⟩ = some (.bool (M.getD y false)) ∧ W.frozen? ⟨w.heap.size + 1, y, none⟩ = false := by
  refine ⟨?_, h.met.frozenAt y⟩
  rw [h.met.cellAt y (by omega), bools_get (by omega)]

/-- What Order gives. -/
def OrdIs (B : Nat) (qs : List St) (e : Ending) (w' : World) : Prop := ∃ v X, e = .returned v ∧ w'.ownsRow B 3 1 v X.length (ints X) ∧ OrdOk qs X

set_option maxRecDepth 50000 in
set_option maxHeartbeats 2000000 in
theorem Order_any (qs : List (St × Value)) (p : Option Addr) (cap : Nat) (w : World) (hl : qs.length ≤ 24) (hr : RS w p qs) (hwf : Wf (qs.map Prod.fst)) (hac : ∀ k, ¬ Hangs (qs.map Prod.fst) k) :
    Calls Try.prog 48 #[.slice p qs.length cap] w fun e w' => OrdIs w.heap.size (qs.map Prod.fst) e w' ∧ Below w.heap.size w w' := by
  obtain ⟨i0, hi, hz0, hz1, hz2⟩ := info_parts Try.info4
  obtain ⟨j0, hjI, hyI0, hyI1, hyI2⟩ := info_parts Try.info3
  obtain ⟨n, hn⟩ : ∃ n, qs.length = n := ⟨_, rfl⟩
  have HN : Hid (qs.length = n) := hn
  rw [hn] at hl ⊢
  have HM : Hid ((qs.map Prod.fst).length = n) := by show (qs.map Prod.fst).length = n; rw [List.length_map, hn]
  have HAC : Hid (∀ k, ¬ Hangs (qs.map Prod.fst) k) := hac
  have HWF : Hid (Wf (qs.map Prod.fst)) := hwf
  obtain ⟨Q, hQ⟩ : ∃ Q, qs.map Prod.fst = Q := ⟨_, rfl⟩
  have HQ : Hid (qs.map Prod.fst = Q) := hQ
  rw [hQ] at HM HAC HWF ⊢
  clear hn hac hwf hQ
  go_enter Try.func48, Try.ntmps48
  go_wp2_with (at_make; refine wpList_make_full _ rfl _ _ 115 rfl w.heap.size 4 i0 (.bool false) 1 Try.under115 hi hz0 hz1 .i64 .i64 _ _ n rfl rfl rfl rfl (by rw [hz2]; omega) (by unfold maxLen; omega) (by simp) ?_; intro w1 hown1 hgrow1)
  have hb1 : Below w.heap.size w w1 := ((Below.refl _ _).alloc (Nat.le_refl _) _).grown hgrow1 (by simp) (fun k hk => by cases hk)
  have hmem : OMem w n w1 (.slice (some ⟨w.heap.size, 0, none⟩) 0 0) (List.replicate n false) [] := by
    refine ⟨?_, ?_, hb1⟩
    · have e : bools (List.replicate n false) = (madeCells (Value.bool false).cells (n * 1)).toList := by
        rw [Nat.mul_one]
        show _ = (madeCells #[Value.bool false] n).toList
        rw [toList_madeCells_one]; simp [bools]
      rw [e]
      have hs1 : (w.alloc (Obj.cells #[] 3)).heap.size = w.heap.size + 1 := by simp
      rw [hs1] at hown1
      exact hown1
    · exact (World.ownsRow_made w #[] 0 (Nat.le_refl _) (by unfold maxLen; omega) rfl).kept hgrow1 (.inr (by simp [Value.ownBlock]))
  have HMEM : Hid _ := hmem
  have HINV : Hid (OInv Q n (List.replicate n false) []) := by
    have := OInv.start Q
    rw [HM.out] at this
    exact this
  clear hmem hown1 hgrow1
  have hw1 : (w.alloc (Obj.cells #[] 3)).heap.size = w.heap.size + 1 := by simp
  go_wp2
  go_loopg [3, 5] (n + 1) (fun gk r m wr => ∃ (b : Bool) (M : List Bool) (X : List Nat), m = .bool b ∧ Hid (OMem w n wr r M X) ∧ Hid (OInv Q n M X) ∧ Hid ((b = true → n - X.length + 1 ≤ gk) ∧ (b = false → Stuck Q M n)))
  case atStart => exact ⟨true, _, _, rfl, HMEM, HINV, fun _ => by simp, fun h => by cases h⟩
  case round =>
    clear HINV HMEM hb1
    obtain ⟨b, M0, X0, rfl, HMe0, HI0, HS0⟩ := hrel
    cases b with
    | false =>
      have HO : Hid (OrdOk Q X0) := HI0.out.ord HWF.out HAC.out (HS0.out.2 rfl)
      go_wp2
      go_ret
      exact ⟨⟨_, X0, rfl, HMe0.out.walk, HO.out⟩, HMe0.out.bel⟩
    | true =>
      have hgk := HS0.out.1 rfl
      obtain ⟨f, rfl⟩ : ∃ f, gk = f + 1 := ⟨gk - 1, by omega⟩
      have HGK : Hid (n - X0.length + 1 ≤ f + 1) := hgk
      have hP0 : OPass Q n X0 false 0 M0 X0 := ⟨HI0.out, (fun h => by cases h), fun _ => ⟨rfl, Stuck.start _ _⟩⟩
      have HP0 : Hid (OPass Q n X0 false 0 M0 X0) := hP0
      clear HS0 HI0 hgk hP0
      go_wp2
      go_loopw [3, 5, 6] (fun r m i wr => ∃ (k : Nat) (b : Bool) (M : List Bool) (X : List Nat), m = .bool b ∧ i = .int .i64 k ∧ k ≤ n ∧ Hid (OMem w n wr r M X) ∧ Hid (OPass Q n X0 b k M X)) (fun _ _ i _ => n - (intOf i).toNat)
      case atStart => exact ⟨0, false, M0, X0, rfl, rfl, Nat.zero_le _, HMe0, HP0⟩
      case round =>
        clear HMe0 HP0
        obtain ⟨k, b, M, X, rfl, rfl, hk, HMe, HP⟩ := hrel
        by_cases hlt : k < n
        · have hkq : k < qs.length := by rw [HN.out]; exact hlt
          have hbel := HMe.out.bel
          have hrr := hr.below hbel (Nat.le_refl _)
          obtain ⟨g, rfl, hg, hc⟩ : ∃ b, p = some ⟨b, 0, none⟩ ∧ b < wr.heap.size ∧ ∀ k (h : k < qs.length) j, j < 9 → wr.cell? ⟨b, k * 9 + j, none⟩ = (stCells qs[k].1 qs[k].2)[j]? := by
            rcases hrr.1 with h | h
            · rw [h] at hkq; simp at hkq
            · exact h
          obtain ⟨⟨s, u⟩, hq⟩ : ∃ q, qs[k] = q := ⟨_, rfl⟩
          have hmem : (s, u) ∈ qs := by rw [← hq]; exact List.getElem_mem _
          have HGet : Hid (Q[k]? = some s) := by show Q[k]? = some s; rw [← HQ.out]; simp [hkq, hq]
          have c0 := hc k hkq 0 (by omega)
          have c1 := hc k hkq 1 (by omega)
          have c2 := hc k hkq 2 (by omega)
          have c3 := hc k hkq 3 (by omega)
          have c4 := hc k hkq 4 (by omega)
          have c5 := hc k hkq 5 (by omega)
          have c6 := hc k hkq 6 (by omega)
          have c7 := hc k hkq 7 (by omega)
          have c8 := hc k hkq 8 (by omega)
          rw [hq] at c0 c1 c2 c3 c4 c5 c6 c7 c8
          simp only [stCells, List.getElem?_cons_zero, List.getElem?_cons_succ, Nat.add_zero] at c0 c1 c2 c3 c4 c5 c6 c7 c8
          have hrd := hrr.2 (s, u) hmem
          obtain ⟨_, up, uc, hue, _, _⟩ := hrr.2 (s, u) hmem
          simp only at hue
          subst hue
          have hws := HWF.out s (List.mem_of_getElem? HGet.out)
          have hML := HP.out.inv.len
          have hcall := isReady_any s up (some ⟨w.heap.size + 1, 0, none⟩) uc n M wr hws.len hrd (fun x hx => by rw [hML, ← HM.out]; exact hws.use x hx) (by rw [hML]; exact Reads.of HMe.out.met)
          rw [hML] at hcall
          obtain ⟨cm, fm⟩ := HMe.out.mc hML hlt
          have hXb := HP.out.inv.bound
          have hsz := hbel.size
          have hmz : w.heap.size + 1 < wr.heap.size := (HMe.out.met.lt _ rfl).2
          clear hc hrr hrd hq hmem hws hML
          cases hmk : M.getD k false with
          | true =>
            rw [hmk] at cm
            have HP2 : Hid (OPass Q n X0 b (k + 1) M X) := HP.out.skip HGet.out (.inl hmk)
            clear hcall hmk
            go_wp2
            go_roundw
            case rel => exact ⟨k + 1, b, M, X, rfl, by go_num, by omega, HMe, HP2⟩
            case measure => simp [intOf]; omega
          | false =>
            rw [hmk] at cm
            cases hrd : readyB M s with
            | false =>
              have HP2 : Hid (OPass Q n X0 b (k + 1) M X) := HP.out.skip HGet.out (.inr hrd)
              rw [hrd] at hcall
              clear hmk hrd
              go_wp2_with (go_at_call 69; refine hcall.mono ?_; rintro e w2 ⟨rfl, hb2⟩; have HMe2 : Hid (OMem w n w2 _ M X) := HMe.out.below hb2)
              go_roundw
              case rel => exact ⟨k + 1, b, M, X, rfl, by go_num, by omega, HMe2, HP2⟩
              case measure => simp [intOf]; omega
            | true =>
              have HP2 : Hid (OPass Q n X0 true (k + 1) (M.set k true) (X ++ [k])) := HP.out.add HGet.out hmk hrd
              rw [hrd] at hcall
              clear hmk hrd
              go_wp2_with fail
              refine hcall.mono ?_
              rintro e w2 ⟨rfl, hb2⟩
              have hMe2 := HMe.out.below hb2
              have HMe2 := hMe2.set k
              have hz2' := hb2.size
              have cm2 : w2.cell? ⟨w.heap.size + 1, k, none⟩ = some (.bool false) := by rw [hb2.cell (p := ⟨w.heap.size + 1, k, none⟩) hmz]; exact cm
              have fm2 : w2.frozen? ⟨w.heap.size + 1, k, none⟩ = false := hMe2.met.frozenAt k
              go_wp2_with (at_builtin; refine wpList_append_own _ rfl _ _ 38 rfl w.heap.size 3 j0 (.int .i64 0) 1 8 Try.under38 hjI hyI0 hyI1 hyI2 rfl (by decide) _ _ _ rfl (HMe2.walk.alloc _) ⟨w2.heap.size, 0, none⟩ 1 1 [.int .i64 k] rfl rfl (cells_new _ _ _ _ (by simp [World.setCell])) (by intro x hx; simp at hx; subst hx; rfl) (by unfold maxLen; omega) (by omega) (by simp [World.setCell]; omega) ?_; intro v' w' hown' hgrow _)
              have HMe3 : Hid (OMem w n w' v' (M.set k true) (X ++ [k])) := HMe2.app hown' hgrow
              clear hown' hgrow HMe2 hMe2
              go_wp2
              go_roundw
              case rel => exact ⟨k + 1, true, _, _, rfl, by go_num, by omega, HMe3, HP2⟩
              case measure => simp [intOf]; omega
        · have HX : Hid ((b = true → n - X.length + 1 ≤ f) ∧ (b = false → Stuck Q M n)) := by
            have hp := HP.out
            have hgk := HGK.out
            have hbd := hp.inv.bound
            refine ⟨fun e => ?_, fun e => ?_⟩
            · have := hp.more e; omega
            · have := (hp.none e).2
              rwa [show k = n by omega] at this
          have HI : Hid (OInv Q n M X) := HP.out.inv
          go_wp2
          go_roundg f
          case measure => omega
          case rel => exact ⟨b, M, X, rfl, HMe, HI, HX⟩
end Go.Proofs.Ytfbkjopidjojeab

