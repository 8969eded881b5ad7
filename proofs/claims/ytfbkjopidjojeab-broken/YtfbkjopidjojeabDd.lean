/-
  Walks over package plan: usedClock, firstClock, isEven, isGiven.
-/
import Derived.Test.YtfbkjopidjojeabDc
namespace Go.Proofs.Ytfbkjopidjojeab
open Go.RowKit

/-- Steps that can be read. -/
def RS (w : World) (p : Option Addr) (qs : List (St × Value)) : Prop :=
  (qs = [] ∨ ∃ b, p = some ⟨b, 0, none⟩ ∧ b < w.heap.size ∧ ∀ k (h : k < qs.length) j, j < 9 → w.cell? ⟨b, k * 9 + j, none⟩ = (stCells qs[k].1 qs[k].2)[j]?) ∧ ∀ q ∈ qs, Reads w q.2 1 q.1.uses.length (ints q.1.uses)
theorem RS.below {w w' : World} {B : Nat} {p : Option Addr} {ps : List (St × Value)} (h : RS w p ps) (hb : Below B w w') (hB : w.heap.size ≤ B) : RS w' p ps := by
  refine ⟨h.1.imp id fun ⟨b, e, hlt, hc⟩ => ⟨b, e, Nat.lt_of_lt_of_le hlt hb.size, fun k hk j hj => ?_⟩, fun q hq => (h.2 q hq).below hb hB⟩
  rw [hb.cell (p := ⟨b, k * 9 + j, none⟩) (by show b < B; omega)]; exact hc k hk j hj
theorem StepsAt.rs {w : World} {B : Nat} {v : Value} {ps : List (St × Value)} (h : StepsAt w B v ps) : ∃ p cap, v = .slice p ps.length cap ∧ ps.length ≤ cap ∧ RS w p ps := by
  have hr := fun q hq => Reads.of (h.2 q hq)
  rcases h.1.2 with ⟨rfl, hn⟩ | ⟨g, cap, cur, rfl, hg, hh, hc, rest⟩
  · exact ⟨none, 0, by rw [hn], by omega, .inl (List.length_eq_zero_iff.1 hn), hr⟩
  · refine ⟨some ⟨g, 0, none⟩, cap, rfl, hc, .inr ⟨g, rfl, (Array.getElem?_eq_some_iff.1 hh).1, fun k hk j hj => ?_⟩, hr⟩
    have := h.1.cellAt (k * 9 + j) (by omega)
    rw [this, stRows_get ps k j hk hj]

/-- The clock of the n-th name that is used. -/
def ucL (qs : List St) (s : St) (n : Nat) : Wd := match s.uses[n]? with
  | none => ([], [])
  | some k => match qs[k]? with
    | none => ([], [])
    | some t => t.ck
def hasC (c : Wd) : Bool := !c.2.isEmpty
/-- The first clock among those of the names that are used. -/
def fcL (qs : List St) (s : St) : Wd := (((List.range s.uses.length).find? fun n => hasC (ucL qs s n)).map (ucL qs s)).getD ([], [])
def isEv (k : Nat) : Bool := decide (3 ≤ k) && decide (k ≤ 9)
def isGv (k : Nat) : Bool := k == 1 || k == 2 || k == 12

theorem ints_get {L : List Nat} {k : Nat} (h : k < L.length) : (ints L)[k]? = some (.int .i64 (L[k] : Int)) := by simp [ints, h]

/-- A clock is given. -/
def CkIs (c : Wd) (e : Ending) : Prop := e = .returned (.agg #[.string (bs c.1), .string (bs c.2)])

set_option maxRecDepth 50000 in
set_option maxHeartbeats 1000000 in
theorem usedClock_any (qs : List (St × Value)) (p : Option Addr) (cap : Nat) (s : St) (up : Option Addr) (uc : Nat) (n : Nat) (w : World) (hn : n ≤ 1048576) (hr : RS w p qs)
    (hu : Reads w (.slice up s.uses.length uc) 1 s.uses.length (ints s.uses)) (hux : ∀ x ∈ s.uses, x < qs.length) :
    Calls Try.prog 56 #[.slice p qs.length cap, .agg #[.int .i64 s.no, .int .i64 s.kind, .string (S s.name), .slice up s.uses.length uc, .int .i64 s.num, .string (bs s.wd.1), .string (bs s.wd.2), .string (bs s.ck.1), .string (bs s.ck.2)], .int .i64 n] w
      fun e w' => CkIs (ucL (qs.map Prod.fst) s n) e ∧ Below w.heap.size w w' := by
  by_cases hlt : n < s.uses.length
  · obtain ⟨_, q, c', he, _, hrow⟩ := hu
    injection he with he1 he2 he3
    subst he1
    obtain ⟨ub, uo, rfl, hrw⟩ : ∃ b off, up = some ⟨b, off, none⟩ ∧ Row w b off (ints s.uses) := by
      rcases hrow with h | h
      · omega
      · exact h
    obtain ⟨k, hk⟩ : ∃ k, k = s.uses[n] := ⟨_, rfl⟩
    have hkl : k < qs.length := by rw [hk]; exact hux _ (List.getElem_mem _)
    obtain ⟨b, rfl, hb, hc⟩ : ∃ b, p = some ⟨b, 0, none⟩ ∧ b < w.heap.size ∧ ∀ k (h : k < qs.length) j, j < 9 → w.cell? ⟨b, k * 9 + j, none⟩ = (stCells qs[k].1 qs[k].2)[j]? := by
      rcases hr.1 with h | h
      · rw [h] at hkl; simp at hkl
      · exact h
    have cu : w.cell? ⟨ub, uo + n, none⟩ = some (.int .i64 (k : Int)) := by rw [hrw.2 n (by rw [ints_length]; exact hlt), ints_get hlt, ← hk]
    have c7 : w.cell? ⟨b, k * 9 + 7, none⟩ = some (.string (bs qs[k].1.ck.1)) := hc k hkl 7 (by omega)
    have c8 : w.cell? ⟨b, k * 9 + 8, none⟩ = some (.string (bs qs[k].1.ck.2)) := hc k hkl 8 (by omega)
    have hub := hrw.1
    have HU : Hid (ucL (qs.map Prod.fst) s n = qs[k].1.ck) := by
      show ucL _ _ _ = _
      unfold ucL
      have h1 : s.uses[n]? = some k := by rw [List.getElem?_eq_getElem hlt, ← hk]
      have h2 : (qs.map Prod.fst)[k]? = some qs[k].1 := by simp [hkl]
      simp only [h1, h2]
    clear hc hr hrow hk hux hrw he2 he3
    go_enter Try.func56, Try.ntmps56
    go_wp2
    refine bodyPost_ret (v := .agg #[.string (bs qs[k].1.ck.1), .string (bs qs[k].1.ck.2)]) (by simp [results, Try.results56, go_sem]) rfl ⟨?_, ?_⟩
    · unfold CkIs; rw [HU.out]
    · exact ((Below.refl _ _).alloc (Nat.le_refl _) _).alloc (by simp) _
  · have HU : Hid (ucL (qs.map Prod.fst) s n = ([], [])) := by
      show ucL _ _ _ = _
      unfold ucL
      rw [List.getElem?_eq_none (by omega)]
    clear hr hu hux
    go_enter Try.func56, Try.ntmps56
    go_wp2
    refine bodyPost_ret (v := .agg #[.string ⟨#[]⟩, .string ⟨#[]⟩]) (by simp [results, Try.results56, go_sem]) rfl ⟨?_, ?_⟩
    · unfold CkIs; rw [HU.out]; rfl
    · exact ((Below.refl _ _).alloc (Nat.le_refl _) _).alloc (by simp) _

set_option maxRecDepth 50000 in
set_option maxHeartbeats 1000000 in
theorem isEven_any (k : Nat) (w : World) (_hk : k ≤ 1048576) : Calls Try.prog 78 #[.int .i64 k] w fun e w' => e = .returned (.bool (isEv k)) ∧ w' = w := by
  have hcs : k = 3 ∨ k = 4 ∨ k = 5 ∨ k = 6 ∨ k = 7 ∨ k = 8 ∨ k = 9 ∨ (k ≠ 3 ∧ k ≠ 4 ∧ k ≠ 5 ∧ k ≠ 6 ∧ k ≠ 7 ∧ k ≠ 8 ∧ k ≠ 9) := by omega
  rcases hcs with rfl | rfl | rfl | rfl | rfl | rfl | rfl | ⟨h3, h4, h5, h6, h7, h8, h9⟩
  case inr.inr.inr.inr.inr.inr.inr =>
    have HE : Hid (isEv k = false) := by show isEv k = false; simp [isEv]; omega
    have g3 : ¬ (k : Int) = 3 := by omega
    have g4 : ¬ (k : Int) = 4 := by omega
    have g5 : ¬ (k : Int) = 5 := by omega
    have g6 : ¬ (k : Int) = 6 := by omega
    have g7 : ¬ (k : Int) = 7 := by omega
    have g8 : ¬ (k : Int) = 8 := by omega
    have g9 : ¬ (k : Int) = 9 := by omega
    go_enter Try.func78, Try.ntmps78
    go_wp2
    go_ret
    exact ⟨ret_bool HE.out.symm, rfl⟩
  all_goals
    go_enter Try.func78, Try.ntmps78
    go_wp2
    go_ret
    exact ⟨rfl, rfl⟩

set_option maxRecDepth 50000 in
set_option maxHeartbeats 1000000 in
theorem isGiven_any (k : Nat) (w : World) (_hk : k ≤ 1048576) : Calls Try.prog 63 #[.int .i64 k] w fun e w' => e = .returned (.bool (isGv k)) ∧ w' = w := by
  have hcs : k = 1 ∨ k = 2 ∨ k = 12 ∨ (k ≠ 1 ∧ k ≠ 2 ∧ k ≠ 12) := by omega
  rcases hcs with rfl | rfl | rfl | ⟨h3, h4, h5⟩
  case inr.inr.inr =>
    have HE : Hid (isGv k = false) := by show isGv k = false; simp [isGv]; omega
    have g3 : ¬ (k : Int) = 1 := by omega
    have g4 : ¬ (k : Int) = 2 := by omega
    have g5 : ¬ (k : Int) = 12 := by omega
    go_enter Try.func63, Try.ntmps63
    go_wp2
    go_ret
    exact ⟨ret_bool HE.out.symm, rfl⟩
  all_goals
    go_enter Try.func63, Try.ntmps63
    go_wp2
    go_ret
    exact ⟨rfl, rfl⟩
end Go.Proofs.Ytfbkjopidjojeab
