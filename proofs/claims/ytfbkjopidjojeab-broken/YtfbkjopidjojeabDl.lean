/-
  Walks over package plan: hangsOnItself.
-/
import Derived.Test.YtfbkjopidjojeabDi
namespace Go.Proofs.Ytfbkjopidjojeab
open Go.RowKit

/-- A step hangs at once on those of the names that it uses, but fby on nothing. -/
def Edge (qs : List St) (a b : Nat) : Prop := ∃ s, qs[a]? = some s ∧ s.kind ≠ 9 ∧ b ∈ s.uses
inductive Reach (qs : List St) (a : Nat) : Nat → Prop
  | one {b : Nat} : Edge qs a b → Reach qs a b
  | more {b c : Nat} : Reach qs a b → Edge qs b c → Reach qs a c
def Hangs (qs : List St) (a : Nat) : Prop := Reach qs a a

theorem Try.info4 : (Try.prog.info? 4).map (fun i => (i.zero, i.size, i.bytes)) = some (some (.bool false), 1, 1) := by kernel_rfl
theorem Try.under115 : Try.prog.underlying 115 = some (.slice 4) := by kernel_rfl
def bools (M : List Bool) : List Value := M.map fun b => .bool b
theorem bools_length (M : List Bool) : (bools M).length = M.length := by simp [bools]

/-- What is known while the steps are gone to. -/
structure HInv (qs : List St) (start n : Nat) (M : List Bool) (X : List Nat) : Prop where
  len : M.length = n
  first : X[0]? = some start
  lt : ∀ x ∈ X, x < n
  reach : ∀ x ∈ X.drop 1, Reach qs start x
  met : ∀ y, M[y]? = some true → y ∈ X.drop 1
  cnt : X.length = 1 + M.count true
theorem HInv.bound {qs : List St} {start n : Nat} {M : List Bool} {X : List Nat} (h : HInv qs start n M X) : X.length ≤ n + 1 := by
  have := List.count_le_length (a := true) (l := M)
  have := h.len; have := h.cnt; omega
theorem HInv.from {qs : List St} {start n : Nat} {M : List Bool} {X : List Nat} (h : HInv qs start n M X) {k : Nat} (hk : k < X.length) {y : Nat} (he : Edge qs X[k] y) : Reach qs start y := by
  cases k with
  | zero =>
    have : X[0] = start := by have := h.first; rw [List.getElem?_eq_getElem hk] at this; injection this
    rw [this] at he; exact .one he
  | succ k =>
    refine .more (h.reach X[k + 1] ?_) he
    have e : X[k + 1] = (X.drop 1)[k]'(by simp; omega) := by simp
    rw [e]; exact List.getElem_mem _
theorem count_set {M : List Bool} {y : Nat} (h : M[y]? = some false) : (M.set y true).count true = M.count true + 1 := by
  induction M generalizing y with
  | nil => simp at h
  | cons a r ih =>
    cases y with
    | zero => simp at h; subst h; simp
    | succ y =>
      have := ih (y := y) (by simpa using h)
      simp only [List.set_cons_succ, List.count_cons] at this ⊢
      omega
theorem HInv.add {qs : List St} {start n : Nat} {M : List Bool} {X : List Nat} (h : HInv qs start n M X) {y : Nat} (hy : y < n) (hm : M[y]? = some false) (hr : Reach qs start y) : HInv qs start n (M.set y true) (X ++ [y]) := by
  have hX : 0 < X.length := by have := h.cnt; omega
  have hd : (X ++ [y]).drop 1 = X.drop 1 ++ [y] := by rw [List.drop_append_of_le_length (by omega)]
  refine ⟨by rw [List.length_set]; exact h.len, by rw [List.getElem?_append_left hX]; exact h.first, fun x hx => ?_, fun x hx => ?_, fun z hz => ?_, by rw [count_set hm]; simp; have := h.cnt; omega⟩
  · rcases List.mem_append.1 hx with hx | hx
    · exact h.lt x hx
    · rw [List.mem_singleton.1 hx]; exact hy
  · rw [hd] at hx
    rcases List.mem_append.1 hx with hx | hx
    · exact h.reach x hx
    · rw [List.mem_singleton.1 hx]; exact hr
  · rw [hd]
    by_cases hzy : z = y
    · subst hzy; simp
    · rw [List.getElem?_set_ne (fun e => hzy e.symm)] at hz
      exact List.mem_append_left _ (h.met z hz)
/-- So many of the steps that were met have been looked at. -/
def Done (qs : List St) (start : Nat) (M : List Bool) (X : List Nat) (k : Nat) : Prop := ∀ j (h : j < X.length), j < k → ∀ y, Edge qs X[j] y → y ≠ start ∧ M[y]? = some true
theorem HInv.none {qs : List St} {start n : Nat} {M : List Bool} {X : List Nat} (h : HInv qs start n M X) (hd : Done qs start M X X.length) : ¬ Hangs qs start := by
  have hX : 0 < X.length := by have := h.cnt; omega
  have h0 : X[0] = start := by have := h.first; rw [List.getElem?_eq_getElem hX] at this; injection this
  have key : ∀ y, Reach qs start y → y ≠ start ∧ M[y]? = some true := by
    intro y hy
    induction hy with
    | one he => exact hd 0 hX hX _ (by rw [h0]; exact he)
    | more _ he ih =>
      rename_i b c _
      have hb := h.met b ih.2
      obtain ⟨i, hi, e⟩ := List.getElem_of_mem hb
      have hi' : i + 1 < X.length := by simp at hi; omega
      have e2 : X[i + 1] = b := by rw [← e]; simp
      exact hd (i + 1) hi' hi' _ (by rw [e2]; exact he)
  intro hh
  exact (key start hh).1 rfl

/-- The memory meanwhile. -/
structure HMem (w : World) (n : Nat) (W : World) (r : Value) (M : List Bool) (X : List Nat) : Prop where
  met : W.ownsRow w.heap.size 4 1 (.slice (some ⟨w.heap.size, 0, none⟩) n n) n (bools M)
  walk : W.ownsRow w.heap.size 3 1 r X.length (ints X)
  bel : Below w.heap.size w W
theorem HMem.alloc {w W : World} {n : Nat} {r : Value} {M : List Bool} {X : List Nat} (h : HMem w n W r M X) (o : Obj) : HMem w n (W.alloc o) r M X := ⟨h.met.alloc o, h.walk.alloc o, h.bel.alloc h.bel.size o⟩
theorem HMem.set {w W : World} {n : Nat} {r : Value} {M : List Bool} {X : List Nat} (h : HMem w n W r M X) (y : Nat) : HMem w n (W.setCell ⟨w.heap.size, y, none⟩ (.bool true)) r (M.set y true) X := by
  obtain ⟨h1, g1⟩ := h.met.stored y (.bool true)
  refine ⟨?_, h.walk.kept g1 (own_ne h.walk h.met (by decide)), h.bel.setCell (Nat.le_refl _) _⟩
  have e : bools (M.set y true) = (bools M).set y (.bool true) := by simp [bools, List.map_set]
  rw [e]; exact h1
theorem HMem.app {w W w' : World} {n : Nat} {r v' : Value} {M : List Bool} {X : List Nat} {y : Nat} {o : Obj} (h : HMem w n W r M X) (hown' : w'.ownsRow w.heap.size 3 1 v' (X.length + 1) (ints X ++ [.int .i64 y])) (hg : (W.alloc o).grownBy w' r.ownBlock) : HMem w n w' v' M (X ++ [y]) := by
  have hm := h.met.alloc o
  have hw := h.walk.alloc o
  refine ⟨hm.kept hg (own_ne hm hw (by decide)), by simpa [ints] using hown', ?_⟩
  exact (h.bel.alloc h.bel.size o).grown hg (by simp; have := h.bel.size; omega) (fun j hj => (h.walk.lt j hj).1)
/-- A step's box stays while rows of another kind are written. -/
theorem StB.grown {w w' : World} {b : Nat} {s : St} {u : Value} {B : Nat} {e : TypeId} {size n : Nat} {v : Value} {xs : List Value} (h : StB w b s u) (ho : w.ownsRow B e size v n xs) (he : e ≠ 76) (hg : w.grownBy w' v.ownBlock) : StB w' b s u := by
  unfold StB at *
  rw [hg.block b (Array.getElem?_eq_some_iff.1 h).1 ?_]; exact h
  intro e1
  rcases ho.2 with ⟨rfl, _⟩ | ⟨g, cap, cur, rfl, _, hh, _⟩
  · simp [Value.ownBlock] at e1
  · simp only [Value.ownBlock, Option.some.injEq] at e1
    have e1 : b = g := e1
    subst e1
    rw [h] at hh
    injection hh with hh
    injection hh with _ h2 _
    exact he h2.symm
theorem HMem.mc {w W : World} {n : Nat} {r : Value} {M : List Bool} {X : List Nat} (h : HMem w n W r M X) {y : Nat} {b : Bool} (hy : M[y]? = some b) (hn : y < n) : W.cell? ⟨w.heap.size, y, none⟩ = some (.bool b) ∧ W.frozen? ⟨w.heap.size, y, none⟩ = false := by
  refine ⟨?_, h.met.frozenAt y⟩
  rw [h.met.cellAt y (by omega)]
  simp [bools, hy]
end Go.Proofs.Ytfbkjopidjojeab
