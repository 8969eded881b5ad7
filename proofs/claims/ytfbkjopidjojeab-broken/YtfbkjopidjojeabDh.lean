/-
  Walks over package plan: what findClocks does to the steps.
-/
import Derived.Test.YtfbkjopidjojeabDg
import Derived.Deep.LoopGhost
namespace Go.Proofs.Ytfbkjopidjojeab
open Go.RowKit

/-- The clock that the line itself says. -/
def give (s : St) : St := if isGv s.kind then { s with ck := s.wd } else s
def longW (c : Wd) : Bool := decide (64 < c.1.length) || decide (64 < c.2.length)
/-- One place of one time through. -/
def tick (qs : List St) (k : Nat) (more : Bool) : Except Flt (List St × Bool) := match qs[k]? with
  | none => .ok (qs, more)
  | some s => if hasC s.ck then .ok (qs, more)
    else if longW (ckOf qs s) then .error (2, s.no)
    else if hasC (ckOf qs s) then .ok (qs.set k { s with ck := ckOf qs s }, true)
    else .ok (qs, more)
/-- The places from k on, n of them. -/
def pass : Nat → List St → Nat → Bool → Except Flt (List St × Bool)
  | 0, qs, _, more => .ok (qs, more)
  | n + 1, qs, k, more => match tick qs k more with
    | .error f => .error f
    | .ok r => pass n r.1 (k + 1) r.2
/-- Again and again. -/
def solveL : Nat → List St → Except Flt (List St)
  | 0, qs => .ok qs
  | f + 1, qs => match pass qs.length qs 0 false with
    | .error e => .error e
    | .ok r => if r.2 then solveL f r.1 else .ok r.1
/-- How many have no clock yet. -/
def unc (qs : List St) : Nat := qs.countP fun s => !hasC s.ck
theorem unc_le (qs : List St) : unc qs ≤ qs.length := List.countP_le_length
theorem unc_set {qs : List St} {k : Nat} {s : St} {c : Wd} (hs : qs[k]? = some s) (h0 : hasC s.ck = false) (hc : hasC c = true) : unc (qs.set k { s with ck := c }) + 1 = unc qs := by
  induction qs generalizing k with
  | nil => simp at hs
  | cons a r ih =>
    cases k with
    | zero =>
      simp at hs
      subst hs
      simp [unc, h0, hc]
    | succ k =>
      have := ih (k := k) (by simpa using hs)
      simp only [unc, List.set_cons_succ, List.countP_cons] at this ⊢
      omega

/-- What is known of a step but for its clock. -/
structure WfS (n : Nat) (s : St) : Prop where
  use : ∀ x ∈ s.uses, x < n
  len : s.uses.length ≤ 1048575
  kind : s.kind ≤ 13
  wd : s.wd.1.length ≤ 12 ∧ s.wd.2.length ≤ 12
  has : s.kind = 10 ∨ s.kind = 11 ∨ isGv s.kind = true → s.wd.2 ≠ []
theorem WfS.ck {n : Nat} {s : St} (h : WfS n s) (c : Wd) : WfS n { s with ck := c } := ⟨h.use, h.len, h.kind, h.wd, h.has⟩
def Wf (qs : List St) : Prop := ∀ s ∈ qs, WfS qs.length s
theorem Wf.set {qs : List St} (h : Wf qs) {k : Nat} {s : St} (hs : qs[k]? = some s) (c : Wd) : Wf (qs.set k { s with ck := c }) := by
  intro t ht
  rw [List.length_set]
  rcases List.mem_or_eq_of_mem_set ht with h1 | h1
  · exact h t h1
  · rw [h1]; exact (h s (List.mem_of_getElem? hs)).ck c
theorem CkOk.set {n : Nat} {qs : List St} (h : CkOk n qs) {k : Nat} {s : St} {c : Wd} (hc : c.1.length ≤ n ∧ c.2.length ≤ n) : CkOk n (qs.set k { s with ck := c }) := by
  intro t ht
  rcases List.mem_or_eq_of_mem_set ht with h1 | h1
  · exact h t h1
  · rw [h1]; exact hc

theorem stRows_set (qs : List (St × Value)) : ∀ (k : Nat) (h : k < qs.length) (c : Wd), ((stRows qs).set (k * 9 + 7) (.string (bs c.1))).set (k * 9 + 8) (.string (bs c.2)) = stRows (qs.set k ({ qs[k].1 with ck := c }, qs[k].2)) := by
  induction qs with
  | nil => intro k h; simp at h
  | cons p ps ih =>
    intro k h c
    have e : ∀ (a : St × Value) (l : List (St × Value)), stRows (a :: l) = stCells a.1 a.2 ++ stRows l := fun a l => by simp [stRows]
    cases k with
    | zero =>
      rw [e, List.set_cons_zero, e]
      rw [List.set_append_left _ _ (by simp [stCells]), List.set_append_left _ _ (by simp [stCells])]
      rfl
    | succ k =>
      rw [e, List.set_cons_succ, e]
      rw [List.set_append_right _ _ (by simp [stCells]; omega), List.set_append_right _ _ (by simp [stCells]; omega)]
      have l9 : (stCells p.1 p.2).length = 9 := rfl
      have a1 : (k + 1) * 9 + 7 - (stCells p.1 p.2).length = k * 9 + 7 := by rw [l9]; omega
      have a2 : (k + 1) * 9 + 8 - (stCells p.1 p.2).length = k * 9 + 8 := by rw [l9]; omega
      rw [a1, a2, ih k (by simpa using h) c]
      simp

/-- A clock is written. -/
theorem StepsAt.store {w : World} {B g cap : Nat} {qs : List (St × Value)} (h : StepsAt w B (.slice (some ⟨g, 0, none⟩) qs.length cap) qs) {k : Nat} (hk : k < qs.length) (c : Wd) :
    StepsAt ((w.setCell ⟨g, k * 9 + 7, none⟩ (.string (bs c.1))).setCell ⟨g, k * 9 + 8, none⟩ (.string (bs c.2))) B (.slice (some ⟨g, 0, none⟩) (qs.set k ({ qs[k].1 with ck := c }, qs[k].2)).length cap) (qs.set k ({ qs[k].1 with ck := c }, qs[k].2)) := by
  obtain ⟨h1, g1⟩ := h.1.stored (k * 9 + 7) (.string (bs c.1))
  obtain ⟨h2, g2⟩ := h1.stored (k * 9 + 8) (.string (bs c.2))
  rw [stRows_set qs k hk c] at h2
  refine ⟨by rw [List.length_set]; exact h2, fun p hp => ?_⟩
  have hold : ∀ q ∈ qs, ((w.setCell ⟨g, k * 9 + 7, none⟩ (.string (bs c.1))).setCell ⟨g, k * 9 + 8, none⟩ (.string (bs c.2))).ownsRow B 3 1 q.2 q.1.uses.length (ints q.1.uses) := fun q hq => by
    have a1 := (h.2 q hq).kept g1 (own_ne (h.2 q hq) h.1 (by decide))
    exact a1.kept g2 (own_ne a1 h1 (by decide))
  rcases List.mem_or_eq_of_mem_set hp with hp | hp
  · exact hold p hp
  · rw [hp]; exact hold qs[k] (List.getElem_mem _)
theorem StepsAt.below {w w' : World} {B : Nat} {v : Value} {qs : List (St × Value)} (h : StepsAt w B v qs) (hb : Below w.heap.size w w') : StepsAt w' B v qs := ⟨ownsRow_below h.1 hb, fun p hp => ownsRow_below (h.2 p hp) hb⟩
theorem StepsAt.frz {w : World} {B g n cap : Nat} {qs : List (St × Value)} (h : StepsAt w B (.slice (some ⟨g, 0, none⟩) n cap) qs) (hn : n = qs.length) (j : Nat) : w.frozen? ⟨g, j, none⟩ = false := by
  subst hn; exact h.1.frozenAt j
theorem StepsAt.cel {w : World} {B g n cap : Nat} {qs : List (St × Value)} (h : StepsAt w B (.slice (some ⟨g, 0, none⟩) n cap) qs) (hn : n = qs.length) {k : Nat} (hk : k < qs.length) (j : Nat) (hj : j < 9) : w.cell? ⟨g, k * 9 + j, none⟩ = (stCells qs[k].1 qs[k].2)[j]? := by
  subst hn
  have := h.1.cellAt (k * 9 + j) (by omega)
  rw [this, stRows_get qs k j hk hj]
theorem FltB.other {w : World} {b c j : Nat} {x y : Int} (h : FltB w b x y) (hc : b ≠ c) (v : Value) : FltB (w.setCell ⟨c, j, none⟩ v) b x y := by
  unfold FltB; rw [heap_setCell_other w ⟨c, j, none⟩ b v hc]; exact h
theorem map_set_fst {α β : Type} (l : List (α × β)) (k : Nat) (a : α × β) : (l.set k a).map Prod.fst = (l.map Prod.fst).set k a.1 := by rw [List.map_set]

/-- What stands while findClocks goes on. -/
structure FC (w : World) (B g n cap : Nat) (wr : World) (qs : List (St × Value)) : Prop where
  len : qs.length = n
  at_ : StepsAt wr B (.slice (some ⟨g, 0, none⟩) n cap) qs
  flt : FltB wr w.heap.size 0 0
  bel : Below B w wr
  sz : w.heap.size < wr.heap.size
  gl : g < w.heap.size
  gb : B ≤ g
  wf : Wf (qs.map Prod.fst)
  ok : CkOk 64 (qs.map Prod.fst)
theorem FC.below {w wr w' : World} {B g n cap : Nat} {qs : List (St × Value)} (h : FC w B g n cap wr qs) (hb : Below wr.heap.size wr w') : FC w B g n cap w' qs := by
  have hz := hb.size
  have := h.sz; have := h.gl; have := h.gb
  exact ⟨h.len, h.at_.below hb, h.flt.below hb h.sz, h.bel.trans (hb.mono (by omega)), by omega, h.gl, h.gb, h.wf, h.ok⟩
theorem FC.set {w wr : World} {B g n cap : Nat} {qs : List (St × Value)} (h : FC w B g n cap wr qs) {k : Nat} (hk : k < qs.length) (c : Wd) (hc : c.1.length ≤ 64 ∧ c.2.length ≤ 64) :
    FC w B g n cap ((wr.setCell ⟨g, k * 9 + 7, none⟩ (.string (bs c.1))).setCell ⟨g, k * 9 + 8, none⟩ (.string (bs c.2))) (qs.set k ({ qs[k].1 with ck := c }, qs[k].2)) := by
  have hg := h.gl
  have hat := h.at_
  have hget : (qs.map Prod.fst)[k]? = some qs[k].1 := by simp [hk]
  rw [← h.len] at hat
  refine ⟨by rw [List.length_set]; exact h.len, ?_, (h.flt.other (by omega) _).other (by omega) _, (h.bel.setCell h.gb _).setCell h.gb _, by simp [World.setCell]; exact h.sz, h.gl, h.gb, ?_, ?_⟩
  · have := hat.store hk c
    rw [List.length_set, h.len] at this
    exact this
  · rw [map_set_fst]; exact h.wf.set hget c
  · rw [map_set_fst]; exact h.ok.set hc
end Go.Proofs.Ytfbkjopidjojeab
