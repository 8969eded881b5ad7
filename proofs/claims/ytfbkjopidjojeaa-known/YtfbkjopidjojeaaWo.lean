/-
  The table of the law Known: where it lies in memory; what is known of each row.
-/
import Derived.Test.YtfbkjopidjojeaaWn
import Derived.Test.YtfbkjopidjojeaaMf
namespace Go.Proofs.Ytfbkjopidjojeaa
open Go.RowKit

/-- Blocks, one behind the other. -/
def allocs (w : World) : List Obj → World
  | [] => w
  | o :: l => allocs (w.alloc o) l
theorem allocs_below (l : List Obj) : ∀ w : World, Below w.heap.size w (allocs w l) := by
  induction l with
  | nil => intro w; exact Below.refl _ _
  | cons o l ih =>
    intro w
    exact ((Below.refl w.heap.size w).alloc (Nat.le_refl _) o).trans ((ih (w.alloc o)).mono (by simp))
theorem allocs_heap (l : List Obj) : ∀ (w : World) (i : Nat), i < l.length → (allocs w l).heap[w.heap.size + i]? = l[i]? := by
  induction l with
  | nil => intro w i h; simp at h
  | cons o l ih =>
    intro w i h
    cases i with
    | zero =>
      have hb := (allocs_below l (w.alloc o)).block w.heap.size (by simp)
      show (allocs (w.alloc o) l).heap[w.heap.size + 0]? = some o
      rw [Nat.add_zero, hb]
      show (w.heap.push o)[w.heap.size]? = _
      simp
    | succ i =>
      have := ih (w.alloc o) i (by simpa using h)
      have e : (w.alloc o).heap.size + i = w.heap.size + (i + 1) := by simp; omega
      rw [e] at this
      rw [List.getElem?_cons_succ]; exact this
theorem cell_of_heap {w : World} {b j : Nat} {C : Array Value} {t : TypeId} {fr : Nat × Nat} (h : w.heap[b]? = some (.cells C t fr)) : w.cell? ⟨b, j, none⟩ = C[j]? := by
  unfold World.cell?; simp [h]

theorem lt_of_cell {w : World} {b j : Nat} {v : Value} (h : w.cell? ⟨b, j, none⟩ = some v) : b < w.heap.size := by
  rcases Nat.lt_or_ge b w.heap.size with g | g
  · exact g
  · unfold World.cell? at h
    simp [Array.getElem?_eq_none g] at h

/-- The table. -/
def tblT : List (List ByteArray) := [
  [⟨#[110]⟩, ⟨#[40, 49, 41]⟩, ⟨#[]⟩, ⟨#[40, 49, 41]⟩],
  [⟨#[110]⟩, ⟨#[49, 40, 48, 49, 41]⟩, ⟨#[]⟩, ⟨#[40, 49, 48, 41]⟩],
  [⟨#[110]⟩, ⟨#[49, 48, 40, 49, 48, 49, 48, 41]⟩, ⟨#[]⟩, ⟨#[40, 49, 48, 41]⟩],
  [⟨#[110]⟩, ⟨#[48, 40, 49, 49, 41]⟩, ⟨#[]⟩, ⟨#[48, 40, 49, 41]⟩],
  [⟨#[110]⟩, ⟨#[49, 49, 48, 40, 49, 48, 48, 49, 48, 41]⟩, ⟨#[]⟩, ⟨#[49, 40, 49, 48, 49, 48, 48, 41]⟩],
  [⟨#[110]⟩, ⟨#[48, 49, 40, 49, 41]⟩, ⟨#[]⟩, ⟨#[48, 40, 49, 41]⟩],
  [⟨#[110]⟩, ⟨#[40, 48, 41]⟩, ⟨#[]⟩, ⟨#[40, 48, 41]⟩],
  [⟨#[110]⟩, ⟨#[48, 48, 48, 48, 48, 48, 48, 48, 48, 48, 48, 48, 40, 48, 48, 48, 48, 48, 48, 48, 48, 48, 48, 48, 48, 41]⟩, ⟨#[]⟩, ⟨#[40, 48, 41]⟩],
  [⟨#[110]⟩, ⟨#[]⟩, ⟨#[]⟩, ⟨#[45]⟩],
  [⟨#[110]⟩, ⟨#[40, 41]⟩, ⟨#[]⟩, ⟨#[45]⟩],
  [⟨#[110]⟩, ⟨#[49]⟩, ⟨#[]⟩, ⟨#[45]⟩],
  [⟨#[110]⟩, ⟨#[40, 49]⟩, ⟨#[]⟩, ⟨#[45]⟩],
  [⟨#[110]⟩, ⟨#[40, 49, 41, 41]⟩, ⟨#[]⟩, ⟨#[45]⟩],
  [⟨#[110]⟩, ⟨#[40, 40, 49, 41]⟩, ⟨#[]⟩, ⟨#[45]⟩],
  [⟨#[110]⟩, ⟨#[40, 50, 41]⟩, ⟨#[]⟩, ⟨#[45]⟩],
  [⟨#[110]⟩, ⟨#[49, 40, 48, 41, 49]⟩, ⟨#[]⟩, ⟨#[45]⟩],
  [⟨#[110]⟩, ⟨#[48, 48, 48, 48, 48, 48, 48, 48, 48, 48, 48, 48, 49, 40, 49, 41]⟩, ⟨#[]⟩, ⟨#[45]⟩],
  [⟨#[110]⟩, ⟨#[40, 48, 48, 48, 48, 48, 48, 48, 48, 48, 48, 48, 48, 49, 41]⟩, ⟨#[]⟩, ⟨#[45]⟩],
  [⟨#[116]⟩, ⟨#[49, 40, 48, 48, 49, 41]⟩, ⟨#[]⟩, ⟨#[40, 48, 49, 49, 41]⟩],
  [⟨#[116]⟩, ⟨#[40, 49, 48, 41]⟩, ⟨#[]⟩, ⟨#[40, 48, 49, 41]⟩],
  [⟨#[101]⟩, ⟨#[40, 49, 48, 48, 41]⟩, ⟨#[40, 48, 49, 41]⟩, ⟨#[40, 49, 49, 48, 49, 48, 49, 41]⟩],
  [⟨#[101]⟩, ⟨#[49, 40, 48, 41]⟩, ⟨#[40, 48, 49, 41]⟩, ⟨#[49, 40, 49, 48, 41]⟩],
  [⟨#[111]⟩, ⟨#[40, 49, 48, 41]⟩, ⟨#[40, 48, 49, 41]⟩, ⟨#[40, 48, 48, 49, 48, 41]⟩],
  [⟨#[111]⟩, ⟨#[48, 40, 49, 49, 48, 41]⟩, ⟨#[40, 49, 48, 41]⟩, ⟨#[40, 48, 49, 48, 41]⟩],
  [⟨#[111]⟩, ⟨#[40, 49, 48, 41]⟩, ⟨#[49, 40, 48, 41]⟩, ⟨#[49, 40, 48, 41]⟩],
  [⟨#[111]⟩, ⟨#[49, 40, 48, 41]⟩, ⟨#[48, 49, 40, 49, 41]⟩, ⟨#[40, 48, 41]⟩],
  [⟨#[101]⟩, ⟨#[40, 49, 48, 48, 48, 48, 48, 48, 48, 48, 48, 48, 41]⟩, ⟨#[40, 49, 48, 48, 48, 48, 48, 48, 48, 48, 48, 48, 48, 48, 41]⟩, ⟨#[45]⟩],
  [⟨#[101]⟩, ⟨#[40, 49, 48, 48, 48, 48, 48, 48, 48, 48, 41]⟩, ⟨#[40, 49, 48, 48, 48, 48, 48, 48, 48, 41]⟩, ⟨#[43]⟩],
  [⟨#[111]⟩, ⟨#[40, 49, 48, 48, 48, 48, 48, 48, 48, 48, 48, 48, 41]⟩, ⟨#[40, 49, 48, 48, 48, 48, 48, 48, 41]⟩, ⟨#[43]⟩]]
def rowObj (l : List ByteArray) : Obj := .cells (l.map Value.string).toArray 9
def outObj (n : Nat) : Obj := (Obj.cells #[Value.slice (some ⟨n, 0, none⟩) 4 4, Value.slice (some ⟨n + 1, 0, none⟩) 4 4, Value.slice (some ⟨n + 1 + 1, 0, none⟩) 4 4, Value.slice (some ⟨n + 1 + 1 + 1, 0, none⟩) 4 4, Value.slice (some ⟨n + 1 + 1 + 1 + 1, 0, none⟩) 4 4, Value.slice (some ⟨n + 1 + 1 + 1 + 1 + 1, 0, none⟩) 4 4, Value.slice (some ⟨n + 1 + 1 + 1 + 1 + 1 + 1, 0, none⟩) 4 4, Value.slice (some ⟨n + 1 + 1 + 1 + 1 + 1 + 1 + 1, 0, none⟩) 4 4, Value.slice (some ⟨n + 1 + 1 + 1 + 1 + 1 + 1 + 1 + 1, 0, none⟩) 4 4, Value.slice (some ⟨n + 1 + 1 + 1 + 1 + 1 + 1 + 1 + 1 + 1, 0, none⟩) 4 4, Value.slice (some ⟨n + 1 + 1 + 1 + 1 + 1 + 1 + 1 + 1 + 1 + 1, 0, none⟩) 4 4, Value.slice (some ⟨n + 1 + 1 + 1 + 1 + 1 + 1 + 1 + 1 + 1 + 1 + 1, 0, none⟩) 4 4, Value.slice (some ⟨n + 1 + 1 + 1 + 1 + 1 + 1 + 1 + 1 + 1 + 1 + 1 + 1, 0, none⟩) 4 4, Value.slice (some ⟨n + 1 + 1 + 1 + 1 + 1 + 1 + 1 + 1 + 1 + 1 + 1 + 1 + 1, 0, none⟩) 4 4, Value.slice (some ⟨n + 1 + 1 + 1 + 1 + 1 + 1 + 1 + 1 + 1 + 1 + 1 + 1 + 1 + 1, 0, none⟩) 4 4, Value.slice (some ⟨n + 1 + 1 + 1 + 1 + 1 + 1 + 1 + 1 + 1 + 1 + 1 + 1 + 1 + 1 + 1, 0, none⟩) 4 4, Value.slice (some ⟨n + 1 + 1 + 1 + 1 + 1 + 1 + 1 + 1 + 1 + 1 + 1 + 1 + 1 + 1 + 1 + 1, 0, none⟩) 4 4, Value.slice (some ⟨n + 1 + 1 + 1 + 1 + 1 + 1 + 1 + 1 + 1 + 1 + 1 + 1 + 1 + 1 + 1 + 1 + 1, 0, none⟩) 4 4, Value.slice (some ⟨n + 1 + 1 + 1 + 1 + 1 + 1 + 1 + 1 + 1 + 1 + 1 + 1 + 1 + 1 + 1 + 1 + 1 + 1, 0, none⟩) 4 4, Value.slice (some ⟨n + 1 + 1 + 1 + 1 + 1 + 1 + 1 + 1 + 1 + 1 + 1 + 1 + 1 + 1 + 1 + 1 + 1 + 1 + 1, 0, none⟩) 4 4, Value.slice (some ⟨n + 1 + 1 + 1 + 1 + 1 + 1 + 1 + 1 + 1 + 1 + 1 + 1 + 1 + 1 + 1 + 1 + 1 + 1 + 1 + 1, 0, none⟩) 4 4, Value.slice (some ⟨n + 1 + 1 + 1 + 1 + 1 + 1 + 1 + 1 + 1 + 1 + 1 + 1 + 1 + 1 + 1 + 1 + 1 + 1 + 1 + 1 + 1, 0, none⟩) 4 4, Value.slice (some ⟨n + 1 + 1 + 1 + 1 + 1 + 1 + 1 + 1 + 1 + 1 + 1 + 1 + 1 + 1 + 1 + 1 + 1 + 1 + 1 + 1 + 1 + 1, 0, none⟩) 4 4, Value.slice (some ⟨n + 1 + 1 + 1 + 1 + 1 + 1 + 1 + 1 + 1 + 1 + 1 + 1 + 1 + 1 + 1 + 1 + 1 + 1 + 1 + 1 + 1 + 1 + 1, 0, none⟩) 4 4, Value.slice (some ⟨n + 1 + 1 + 1 + 1 + 1 + 1 + 1 + 1 + 1 + 1 + 1 + 1 + 1 + 1 + 1 + 1 + 1 + 1 + 1 + 1 + 1 + 1 + 1 + 1, 0, none⟩) 4 4, Value.slice (some ⟨n + 1 + 1 + 1 + 1 + 1 + 1 + 1 + 1 + 1 + 1 + 1 + 1 + 1 + 1 + 1 + 1 + 1 + 1 + 1 + 1 + 1 + 1 + 1 + 1 + 1, 0, none⟩) 4 4, Value.slice (some ⟨n + 1 + 1 + 1 + 1 + 1 + 1 + 1 + 1 + 1 + 1 + 1 + 1 + 1 + 1 + 1 + 1 + 1 + 1 + 1 + 1 + 1 + 1 + 1 + 1 + 1 + 1, 0, none⟩) 4 4, Value.slice (some ⟨n + 1 + 1 + 1 + 1 + 1 + 1 + 1 + 1 + 1 + 1 + 1 + 1 + 1 + 1 + 1 + 1 + 1 + 1 + 1 + 1 + 1 + 1 + 1 + 1 + 1 + 1 + 1, 0, none⟩) 4 4, Value.slice (some ⟨n + 1 + 1 + 1 + 1 + 1 + 1 + 1 + 1 + 1 + 1 + 1 + 1 + 1 + 1 + 1 + 1 + 1 + 1 + 1 + 1 + 1 + 1 + 1 + 1 + 1 + 1 + 1 + 1, 0, none⟩) 4 4] 35)
/-- The world with the table laid. -/
def K0 (w : World) : World := ((((((((((((((((((((((((((((((w.alloc (Obj.cells #[Value.string ⟨#[110]⟩, Value.string ⟨#[40, 49, 41]⟩, Value.string ⟨#[]⟩, Value.string ⟨#[40, 49, 41]⟩] 9)).alloc (Obj.cells #[Value.string ⟨#[110]⟩, Value.string ⟨#[49, 40, 48, 49, 41]⟩, Value.string ⟨#[]⟩, Value.string ⟨#[40, 49, 48, 41]⟩] 9)).alloc (Obj.cells #[Value.string ⟨#[110]⟩, Value.string ⟨#[49, 48, 40, 49, 48, 49, 48, 41]⟩, Value.string ⟨#[]⟩, Value.string ⟨#[40, 49, 48, 41]⟩] 9)).alloc (Obj.cells #[Value.string ⟨#[110]⟩, Value.string ⟨#[48, 40, 49, 49, 41]⟩, Value.string ⟨#[]⟩, Value.string ⟨#[48, 40, 49, 41]⟩] 9)).alloc (Obj.cells #[Value.string ⟨#[110]⟩, Value.string ⟨#[49, 49, 48, 40, 49, 48, 48, 49, 48, 41]⟩, Value.string ⟨#[]⟩, Value.string ⟨#[49, 40, 49, 48, 49, 48, 48, 41]⟩] 9)).alloc (Obj.cells #[Value.string ⟨#[110]⟩, Value.string ⟨#[48, 49, 40, 49, 41]⟩, Value.string ⟨#[]⟩, Value.string ⟨#[48, 40, 49, 41]⟩] 9)).alloc (Obj.cells #[Value.string ⟨#[110]⟩, Value.string ⟨#[40, 48, 41]⟩, Value.string ⟨#[]⟩, Value.string ⟨#[40, 48, 41]⟩] 9)).alloc (Obj.cells #[Value.string ⟨#[110]⟩, Value.string ⟨#[48, 48, 48, 48, 48, 48, 48, 48, 48, 48, 48, 48, 40, 48, 48, 48, 48, 48, 48, 48, 48, 48, 48, 48, 48, 41]⟩, Value.string ⟨#[]⟩, Value.string ⟨#[40, 48, 41]⟩] 9)).alloc (Obj.cells #[Value.string ⟨#[110]⟩, Value.string ⟨#[]⟩, Value.string ⟨#[]⟩, Value.string ⟨#[45]⟩] 9)).alloc (Obj.cells #[Value.string ⟨#[110]⟩, Value.string ⟨#[40, 41]⟩, Value.string ⟨#[]⟩, Value.string ⟨#[45]⟩] 9)).alloc (Obj.cells #[Value.string ⟨#[110]⟩, Value.string ⟨#[49]⟩, Value.string ⟨#[]⟩, Value.string ⟨#[45]⟩] 9)).alloc (Obj.cells #[Value.string ⟨#[110]⟩, Value.string ⟨#[40, 49]⟩, Value.string ⟨#[]⟩, Value.string ⟨#[45]⟩] 9)).alloc (Obj.cells #[Value.string ⟨#[110]⟩, Value.string ⟨#[40, 49, 41, 41]⟩, Value.string ⟨#[]⟩, Value.string ⟨#[45]⟩] 9)).alloc (Obj.cells #[Value.string ⟨#[110]⟩, Value.string ⟨#[40, 40, 49, 41]⟩, Value.string ⟨#[]⟩, Value.string ⟨#[45]⟩] 9)).alloc (Obj.cells #[Value.string ⟨#[110]⟩, Value.string ⟨#[40, 50, 41]⟩, Value.string ⟨#[]⟩, Value.string ⟨#[45]⟩] 9)).alloc (Obj.cells #[Value.string ⟨#[110]⟩, Value.string ⟨#[49, 40, 48, 41, 49]⟩, Value.string ⟨#[]⟩, Value.string ⟨#[45]⟩] 9)).alloc (Obj.cells #[Value.string ⟨#[110]⟩, Value.string ⟨#[48, 48, 48, 48, 48, 48, 48, 48, 48, 48, 48, 48, 49, 40, 49, 41]⟩, Value.string ⟨#[]⟩, Value.string ⟨#[45]⟩] 9)).alloc (Obj.cells #[Value.string ⟨#[110]⟩, Value.string ⟨#[40, 48, 48, 48, 48, 48, 48, 48, 48, 48, 48, 48, 48, 49, 41]⟩, Value.string ⟨#[]⟩, Value.string ⟨#[45]⟩] 9)).alloc (Obj.cells #[Value.string ⟨#[116]⟩, Value.string ⟨#[49, 40, 48, 48, 49, 41]⟩, Value.string ⟨#[]⟩, Value.string ⟨#[40, 48, 49, 49, 41]⟩] 9)).alloc (Obj.cells #[Value.string ⟨#[116]⟩, Value.string ⟨#[40, 49, 48, 41]⟩, Value.string ⟨#[]⟩, Value.string ⟨#[40, 48, 49, 41]⟩] 9)).alloc (Obj.cells #[Value.string ⟨#[101]⟩, Value.string ⟨#[40, 49, 48, 48, 41]⟩, Value.string ⟨#[40, 48, 49, 41]⟩, Value.string ⟨#[40, 49, 49, 48, 49, 48, 49, 41]⟩] 9)).alloc (Obj.cells #[Value.string ⟨#[101]⟩, Value.string ⟨#[49, 40, 48, 41]⟩, Value.string ⟨#[40, 48, 49, 41]⟩, Value.string ⟨#[49, 40, 49, 48, 41]⟩] 9)).alloc (Obj.cells #[Value.string ⟨#[111]⟩, Value.string ⟨#[40, 49, 48, 41]⟩, Value.string ⟨#[40, 48, 49, 41]⟩, Value.string ⟨#[40, 48, 48, 49, 48, 41]⟩] 9)).alloc (Obj.cells #[Value.string ⟨#[111]⟩, Value.string ⟨#[48, 40, 49, 49, 48, 41]⟩, Value.string ⟨#[40, 49, 48, 41]⟩, Value.string ⟨#[40, 48, 49, 48, 41]⟩] 9)).alloc (Obj.cells #[Value.string ⟨#[111]⟩, Value.string ⟨#[40, 49, 48, 41]⟩, Value.string ⟨#[49, 40, 48, 41]⟩, Value.string ⟨#[49, 40, 48, 41]⟩] 9)).alloc (Obj.cells #[Value.string ⟨#[111]⟩, Value.string ⟨#[49, 40, 48, 41]⟩, Value.string ⟨#[48, 49, 40, 49, 41]⟩, Value.string ⟨#[40, 48, 41]⟩] 9)).alloc (Obj.cells #[Value.string ⟨#[101]⟩, Value.string ⟨#[40, 49, 48, 48, 48, 48, 48, 48, 48, 48, 48, 48, 41]⟩, Value.string ⟨#[40, 49, 48, 48, 48, 48, 48, 48, 48, 48, 48, 48, 48, 48, 41]⟩, Value.string ⟨#[45]⟩] 9)).alloc (Obj.cells #[Value.string ⟨#[101]⟩, Value.string ⟨#[40, 49, 48, 48, 48, 48, 48, 48, 48, 48, 41]⟩, Value.string ⟨#[40, 49, 48, 48, 48, 48, 48, 48, 48, 41]⟩, Value.string ⟨#[43]⟩] 9)).alloc (Obj.cells #[Value.string ⟨#[111]⟩, Value.string ⟨#[40, 49, 48, 48, 48, 48, 48, 48, 48, 48, 48, 48, 41]⟩, Value.string ⟨#[40, 49, 48, 48, 48, 48, 48, 48, 41]⟩, Value.string ⟨#[43]⟩] 9))).alloc (outObj w.heap.size)
/-- The number of the table's own block. -/
def outer (n : Nat) : Nat := n + 1 + 1 + 1 + 1 + 1 + 1 + 1 + 1 + 1 + 1 + 1 + 1 + 1 + 1 + 1 + 1 + 1 + 1 + 1 + 1 + 1 + 1 + 1 + 1 + 1 + 1 + 1 + 1 + 1
theorem K0_eq (w : World) : K0 w = allocs w (tblT.map rowObj ++ [outObj w.heap.size]) := rfl
theorem K0_below (w : World) : Below w.heap.size w (K0 w) := by rw [K0_eq]; exact allocs_below _ _
theorem K0_size (w : World) : w.heap.size ≤ (K0 w).heap.size := (K0_below w).size
theorem K0_outer (w : World) (r : Nat) (hr : r < 29) : (K0 w).cell? ⟨outer w.heap.size, r, none⟩ = some (.slice (some ⟨w.heap.size + r, 0, none⟩) 4 4) := by
  have h : (K0 w).heap[w.heap.size + 29]? = some (outObj w.heap.size) := by
    rw [K0_eq, allocs_heap _ _ 29 (by simp [tblT])]; rfl
  have e : outer w.heap.size = w.heap.size + 29 := by unfold outer; omega
  rw [e, cell_of_heap h]
  have : r = 0 ∨ r = 1 ∨ r = 2 ∨ r = 3 ∨ r = 4 ∨ r = 5 ∨ r = 6 ∨ r = 7 ∨ r = 8 ∨ r = 9 ∨ r = 10 ∨ r = 11 ∨ r = 12 ∨ r = 13 ∨ r = 14 ∨ r = 15 ∨ r = 16 ∨ r = 17 ∨ r = 18 ∨ r = 19 ∨ r = 20 ∨ r = 21 ∨ r = 22 ∨ r = 23 ∨ r = 24 ∨ r = 25 ∨ r = 26 ∨ r = 27 ∨ r = 28 := by omega
  rcases this with rfl | rfl | rfl | rfl | rfl | rfl | rfl | rfl | rfl | rfl | rfl | rfl | rfl | rfl | rfl | rfl | rfl | rfl | rfl | rfl | rfl | rfl | rfl | rfl | rfl | rfl | rfl | rfl | rfl <;> rfl
theorem K0_row (w : World) (r : Nat) (l : List ByteArray) (h : tblT[r]? = some l) (j : Nat) : (K0 w).cell? ⟨w.heap.size + r, j, none⟩ = (l.map Value.string)[j]? := by
  have hr : r < tblT.length := (List.getElem?_eq_some_iff.1 h).1
  have hh : (K0 w).heap[w.heap.size + r]? = some (rowObj l) := by
    rw [K0_eq, allocs_heap _ _ r (by rw [List.length_append, List.length_map]; omega), List.getElem?_append_left (by rw [List.length_map]; exact hr), List.getElem?_map, h]; rfl
  rw [cell_of_heap hh]; simp

/-- What is known of a row. -/
def GoodRow (s0 s1 s2 s3 : ByteArray) : Prop :=
  (s0 = ⟨#[110]⟩ ∧ okW s1.data.toList = true ∧ ∃ p q, NF (st s1) p q ∧ p.length ≤ 64 ∧ q.length ≤ 64 ∧ s3 = txt (bs p) (bs q)) ∨
  (s0 = ⟨#[110]⟩ ∧ okW s1.data.toList = false ∧ s3 = ⟨#[45]⟩) ∨
  (s0 = ⟨#[116]⟩ ∧ okW s1.data.toList = true ∧ ∃ p q, NF (fun n => !st s1 n) p q ∧ p.length ≤ 64 ∧ q.length ≤ 64 ∧ s3 = txt (bs p) (bs q)) ∨
  (s0 = ⟨#[101]⟩ ∧ okW s1.data.toList = true ∧ okW s2.data.toList = true ∧ ∃ p q, NF (fun n => st s1 n || st s2 n) p q ∧ p.length ≤ 64 ∧ q.length ≤ 64 ∧ s3 = txt (bs p) (bs q)) ∨
  (s0 = ⟨#[101]⟩ ∧ (okW s1.data.toList = false ∨ okW s2.data.toList = false) ∧ s3 = ⟨#[45]⟩) ∨
  (s0 = ⟨#[101]⟩ ∧ okW s1.data.toList = true ∧ okW s2.data.toList = true ∧ (∃ p q, NF (fun n => st s1 n || st s2 n) p q ∧ (64 < p.length ∨ 64 < q.length)) ∧ s3 = ⟨#[43]⟩) ∨
  (s0 = ⟨#[111]⟩ ∧ okW s1.data.toList = true ∧ okW s2.data.toList = true ∧ ∃ p q, NF (onS (st s1) (st s2)) p q ∧ p.length ≤ 64 ∧ q.length ≤ 64 ∧ s3 = txt (bs p) (bs q)) ∨
  (s0 = ⟨#[111]⟩ ∧ okW s1.data.toList = true ∧ okW s2.data.toList = true ∧ (∃ p q, NF (onS (st s1) (st s2)) p q ∧ (64 < p.length ∨ 64 < q.length)) ∧ s3 = ⟨#[43]⟩)

theorem good_n {s : ByteArray} {u v p q : List Bool} {k : Nat} (hs : s = txt (bs u) (bs v)) (hu : u.length ≤ 12) (hv : v.length ≤ 12) (hv0 : v ≠ []) (hr : redB p q = true) (hk : max p.length u.length + q.length * v.length = k) (hb : sameB (bitAt p q) (bitAt u v) k = true) (hp : p.length ≤ 64) (hq : q.length ≤ 64) {s2 s3 : ByteArray} (h3 : s3 = txt (bs p) (bs q)) : GoodRow ⟨#[110]⟩ s s2 s3 := by
  subst hs
  exact .inl ⟨rfl, okW_word hu hv hv0, p, q, by rw [st_word]; exact nf_check (EP_bitAt u v hv0) hr hk hb, hp, hq, h3⟩
theorem good_no {s s2 : ByteArray} (h : okW s.data.toList = false) : GoodRow ⟨#[110]⟩ s s2 ⟨#[45]⟩ := .inr (.inl ⟨rfl, h, rfl⟩)
theorem good_t {s : ByteArray} {u v p q : List Bool} {k : Nat} (hs : s = txt (bs u) (bs v)) (hu : u.length ≤ 12) (hv : v.length ≤ 12) (hv0 : v ≠ []) (hr : redB p q = true) (hk : max p.length u.length + q.length * v.length = k) (hb : sameB (bitAt p q) (fun n => !bitAt u v n) k = true) (hp : p.length ≤ 64) (hq : q.length ≤ 64) {s2 s3 : ByteArray} (h3 : s3 = txt (bs p) (bs q)) : GoodRow ⟨#[116]⟩ s s2 s3 := by
  subst hs
  exact .inr (.inr (.inl ⟨rfl, okW_word hu hv hv0, p, q, by rw [st_word]; exact nf_check (EP_map (EP_bitAt u v hv0)) hr hk hb, hp, hq, h3⟩))
theorem good_e {s t : ByteArray} {u v x y p q : List Bool} {k P : Nat} (hs : s = txt (bs u) (bs v)) (ht : t = txt (bs x) (bs y)) (hu : u.length ≤ 12) (hv : v.length ≤ 12) (hv0 : v ≠ []) (hx : x.length ≤ 12) (hy : y.length ≤ 12) (hy0 : y ≠ []) (hP : Nat.lcm v.length y.length = P) (hr : redB p q = true) (hk : max p.length (max u.length x.length) + q.length * P = k) (hb : sameB (bitAt p q) (fun n => bitAt u v n || bitAt x y n) k = true) (hp : p.length ≤ 64) (hq : q.length ≤ 64) {s3 : ByteArray} (h3 : s3 = txt (bs p) (bs q)) : GoodRow ⟨#[101]⟩ s t s3 := by
  subst hs ht hP
  exact .inr (.inr (.inr (.inl ⟨rfl, okW_word hu hv hv0, okW_word hx hy hy0, p, q, by rw [st_word, st_word]; exact nf_check (EP_or (EP_bitAt u v hv0) (EP_bitAt x y hy0)) hr hk hb, hp, hq, h3⟩)))
theorem good_el {s t : ByteArray} {u v x y : List Bool} {P : Nat} (hs : s = txt (bs u) (bs v)) (ht : t = txt (bs x) (bs y)) (hu : u.length ≤ 12) (hv : v.length ≤ 12) (hv0 : v ≠ []) (hx : x.length ≤ 12) (hy : y.length ≤ 12) (hy0 : y ≠ []) (hP : Nat.lcm v.length y.length = P) (hP2 : 64 < P) (hr : redB (tab (fun n => bitAt u v n || bitAt x y n) 0 (max u.length x.length)) (tab (fun n => bitAt u v n || bitAt x y n) (max u.length x.length) P) = true) : GoodRow ⟨#[101]⟩ s t ⟨#[43]⟩ := by
  subst hs ht hP
  exact .inr (.inr (.inr (.inr (.inr (.inl ⟨rfl, okW_word hu hv hv0, okW_word hx hy hy0, ⟨_, _, by rw [st_word, st_word]; exact nf_tab (EP_or (EP_bitAt u v hv0) (EP_bitAt x y hy0)) hr, .inr (by rw [tab_length]; exact hP2)⟩, rfl⟩)))))
theorem good_eno {s t : ByteArray} (h : okW s.data.toList = false ∨ okW t.data.toList = false) : GoodRow ⟨#[101]⟩ s t ⟨#[45]⟩ := .inr (.inr (.inr (.inr (.inl ⟨rfl, h, rfl⟩))))
theorem good_o {s t : ByteArray} {u v x y p q : List Bool} {k L P : Nat} (hs : s = txt (bs u) (bs v)) (ht : t = txt (bs x) (bs y)) (hu : u.length ≤ 12) (hv : v.length ≤ 12) (hv0 : v ≠ []) (hx : x.length ≤ 12) (hy : y.length ≤ 12) (hy0 : y ≠ []) (hL : OnL u v x L) (hP : OnP v y P) (hr : redB p q = true) (hk : max p.length L + q.length * P = k) (hb : sameB (bitAt p q) (onS (bitAt u v) (bitAt x y)) k = true) (hp : p.length ≤ 64) (hq : q.length ≤ 64) {s3 : ByteArray} (h3 : s3 = txt (bs p) (bs q)) : GoodRow ⟨#[111]⟩ s t s3 := by
  subst hs ht
  exact .inr (.inr (.inr (.inr (.inr (.inr (.inl ⟨rfl, okW_word hu hv hv0, okW_word hx hy hy0, p, q, by rw [st_word, st_word]; exact nf_check (on_EP hv0 hy0 hL hP) hr hk hb, hp, hq, h3⟩))))))
theorem good_ol {s t : ByteArray} {u v x y : List Bool} {L P : Nat} (hs : s = txt (bs u) (bs v)) (ht : t = txt (bs x) (bs y)) (hu : u.length ≤ 12) (hv : v.length ≤ 12) (hv0 : v ≠ []) (hx : x.length ≤ 12) (hy : y.length ≤ 12) (hy0 : y ≠ []) (hL : OnL u v x L) (hP : OnP v y P) (hP2 : 64 < P) (hr : redB (tab (onS (bitAt u v) (bitAt x y)) 0 L) (tab (onS (bitAt u v) (bitAt x y)) L P) = true) : GoodRow ⟨#[111]⟩ s t ⟨#[43]⟩ := by
  subst hs ht
  exact .inr (.inr (.inr (.inr (.inr (.inr (.inr ⟨rfl, okW_word hu hv hv0, okW_word hx hy hy0, ⟨_, _, by rw [st_word, st_word]; exact nf_tab (on_EP hv0 hy0 hL hP) hr, .inr (by rw [tab_length]; exact hP2)⟩, rfl⟩))))))
theorem good0 : GoodRow ⟨#[110]⟩ ⟨#[40, 49, 41]⟩ ⟨#[]⟩ ⟨#[40, 49, 41]⟩ :=
  good_n (u := []) (v := [true]) (p := []) (q := [true]) (by decide) (by decide) (by decide) (by decide) (by decide +kernel) rfl (by decide +kernel) (by decide) (by decide) (by decide)
theorem good1 : GoodRow ⟨#[110]⟩ ⟨#[49, 40, 48, 49, 41]⟩ ⟨#[]⟩ ⟨#[40, 49, 48, 41]⟩ :=
  good_n (u := [true]) (v := [false, true]) (p := []) (q := [true, false]) (by decide) (by decide) (by decide) (by decide) (by decide +kernel) rfl (by decide +kernel) (by decide) (by decide) (by decide)
theorem good2 : GoodRow ⟨#[110]⟩ ⟨#[49, 48, 40, 49, 48, 49, 48, 41]⟩ ⟨#[]⟩ ⟨#[40, 49, 48, 41]⟩ :=
  good_n (u := [true, false]) (v := [true, false, true, false]) (p := []) (q := [true, false]) (by decide) (by decide) (by decide) (by decide) (by decide +kernel) rfl (by decide +kernel) (by decide) (by decide) (by decide)
theorem good3 : GoodRow ⟨#[110]⟩ ⟨#[48, 40, 49, 49, 41]⟩ ⟨#[]⟩ ⟨#[48, 40, 49, 41]⟩ :=
  good_n (u := [false]) (v := [true, true]) (p := [false]) (q := [true]) (by decide) (by decide) (by decide) (by decide) (by decide +kernel) rfl (by decide +kernel) (by decide) (by decide) (by decide)
theorem good4 : GoodRow ⟨#[110]⟩ ⟨#[49, 49, 48, 40, 49, 48, 48, 49, 48, 41]⟩ ⟨#[]⟩ ⟨#[49, 40, 49, 48, 49, 48, 48, 41]⟩ :=
  good_n (u := [true, true, false]) (v := [true, false, false, true, false]) (p := [true]) (q := [true, false, true, false, false]) (by decide) (by decide) (by decide) (by decide) (by decide +kernel) rfl (by decide +kernel) (by decide) (by decide) (by decide)
theorem good5 : GoodRow ⟨#[110]⟩ ⟨#[48, 49, 40, 49, 41]⟩ ⟨#[]⟩ ⟨#[48, 40, 49, 41]⟩ :=
  good_n (u := [false, true]) (v := [true]) (p := [false]) (q := [true]) (by decide) (by decide) (by decide) (by decide) (by decide +kernel) rfl (by decide +kernel) (by decide) (by decide) (by decide)
theorem good6 : GoodRow ⟨#[110]⟩ ⟨#[40, 48, 41]⟩ ⟨#[]⟩ ⟨#[40, 48, 41]⟩ :=
  good_n (u := []) (v := [false]) (p := []) (q := [false]) (by decide) (by decide) (by decide) (by decide) (by decide +kernel) rfl (by decide +kernel) (by decide) (by decide) (by decide)
theorem good7 : GoodRow ⟨#[110]⟩ ⟨#[48, 48, 48, 48, 48, 48, 48, 48, 48, 48, 48, 48, 40, 48, 48, 48, 48, 48, 48, 48, 48, 48, 48, 48, 48, 41]⟩ ⟨#[]⟩ ⟨#[40, 48, 41]⟩ :=
  good_n (u := [false, false, false, false, false, false, false, false, false, false, false, false]) (v := [false, false, false, false, false, false, false, false, false, false, false, false]) (p := []) (q := [false]) (by decide) (by decide) (by decide) (by decide) (by decide +kernel) rfl (by decide +kernel) (by decide) (by decide) (by decide)
theorem good8 : GoodRow ⟨#[110]⟩ ⟨#[]⟩ ⟨#[]⟩ ⟨#[45]⟩ :=
  good_no (by decide +kernel)
theorem good9 : GoodRow ⟨#[110]⟩ ⟨#[40, 41]⟩ ⟨#[]⟩ ⟨#[45]⟩ :=
  good_no (by decide +kernel)
theorem good10 : GoodRow ⟨#[110]⟩ ⟨#[49]⟩ ⟨#[]⟩ ⟨#[45]⟩ :=
  good_no (by decide +kernel)
theorem good11 : GoodRow ⟨#[110]⟩ ⟨#[40, 49]⟩ ⟨#[]⟩ ⟨#[45]⟩ :=
  good_no (by decide +kernel)
theorem good12 : GoodRow ⟨#[110]⟩ ⟨#[40, 49, 41, 41]⟩ ⟨#[]⟩ ⟨#[45]⟩ :=
  good_no (by decide +kernel)
theorem good13 : GoodRow ⟨#[110]⟩ ⟨#[40, 40, 49, 41]⟩ ⟨#[]⟩ ⟨#[45]⟩ :=
  good_no (by decide +kernel)
theorem good14 : GoodRow ⟨#[110]⟩ ⟨#[40, 50, 41]⟩ ⟨#[]⟩ ⟨#[45]⟩ :=
  good_no (by decide +kernel)
theorem good15 : GoodRow ⟨#[110]⟩ ⟨#[49, 40, 48, 41, 49]⟩ ⟨#[]⟩ ⟨#[45]⟩ :=
  good_no (by decide +kernel)
theorem good16 : GoodRow ⟨#[110]⟩ ⟨#[48, 48, 48, 48, 48, 48, 48, 48, 48, 48, 48, 48, 49, 40, 49, 41]⟩ ⟨#[]⟩ ⟨#[45]⟩ :=
  good_no (by decide +kernel)
theorem good17 : GoodRow ⟨#[110]⟩ ⟨#[40, 48, 48, 48, 48, 48, 48, 48, 48, 48, 48, 48, 48, 49, 41]⟩ ⟨#[]⟩ ⟨#[45]⟩ :=
  good_no (by decide +kernel)
theorem good18 : GoodRow ⟨#[116]⟩ ⟨#[49, 40, 48, 48, 49, 41]⟩ ⟨#[]⟩ ⟨#[40, 48, 49, 49, 41]⟩ :=
  good_t (u := [true]) (v := [false, false, true]) (p := []) (q := [false, true, true]) (by decide) (by decide) (by decide) (by decide) (by decide +kernel) rfl (by decide +kernel) (by decide) (by decide) (by decide)
theorem good19 : GoodRow ⟨#[116]⟩ ⟨#[40, 49, 48, 41]⟩ ⟨#[]⟩ ⟨#[40, 48, 49, 41]⟩ :=
  good_t (u := []) (v := [true, false]) (p := []) (q := [false, true]) (by decide) (by decide) (by decide) (by decide) (by decide +kernel) rfl (by decide +kernel) (by decide) (by decide) (by decide)
theorem good20 : GoodRow ⟨#[101]⟩ ⟨#[40, 49, 48, 48, 41]⟩ ⟨#[40, 48, 49, 41]⟩ ⟨#[40, 49, 49, 48, 49, 48, 49, 41]⟩ :=
  good_e (u := []) (v := [true, false, false]) (x := []) (y := [false, true]) (p := []) (q := [true, true, false, true, false, true]) (P := 6) (by decide) (by decide) (by decide) (by decide) (by decide) (by decide) (by decide) (by decide) (by decide) (by decide +kernel) rfl (by decide +kernel) (by decide) (by decide) (by decide)
theorem good21 : GoodRow ⟨#[101]⟩ ⟨#[49, 40, 48, 41]⟩ ⟨#[40, 48, 49, 41]⟩ ⟨#[49, 40, 49, 48, 41]⟩ :=
  good_e (u := [true]) (v := [false]) (x := []) (y := [false, true]) (p := [true]) (q := [true, false]) (P := 2) (by decide) (by decide) (by decide) (by decide) (by decide) (by decide) (by decide) (by decide) (by decide) (by decide +kernel) rfl (by decide +kernel) (by decide) (by decide) (by decide)
theorem good22 : GoodRow ⟨#[111]⟩ ⟨#[40, 49, 48, 41]⟩ ⟨#[40, 48, 49, 41]⟩ ⟨#[40, 48, 48, 49, 48, 41]⟩ :=
  good_o (u := []) (v := [true, false]) (x := []) (y := [false, true]) (p := []) (q := [false, false, true, false]) (L := 0) (P := 4) (by decide) (by decide) (by decide) (by decide) (by decide) (by decide) (by decide) (by decide) ⟨0, (by decide), (by decide), (by decide)⟩ (show _ = _ by decide) (by decide +kernel) rfl (by decide +kernel) (by decide) (by decide) (by decide)
theorem good23 : GoodRow ⟨#[111]⟩ ⟨#[48, 40, 49, 49, 48, 41]⟩ ⟨#[40, 49, 48, 41]⟩ ⟨#[40, 48, 49, 48, 41]⟩ :=
  good_o (u := [false]) (v := [true, true, false]) (x := []) (y := [true, false]) (p := []) (q := [false, true, false]) (L := 1) (P := 3) (by decide) (by decide) (by decide) (by decide) (by decide) (by decide) (by decide) (by decide) ⟨0, (by decide), (by decide), (by decide)⟩ (show _ = _ by decide) (by decide +kernel) rfl (by decide +kernel) (by decide) (by decide) (by decide)
theorem good24 : GoodRow ⟨#[111]⟩ ⟨#[40, 49, 48, 41]⟩ ⟨#[49, 40, 48, 41]⟩ ⟨#[49, 40, 48, 41]⟩ :=
  good_o (u := []) (v := [true, false]) (x := [true]) (y := [false]) (p := [true]) (q := [false]) (L := 2) (P := 2) (by decide) (by decide) (by decide) (by decide) (by decide) (by decide) (by decide) (by decide) ⟨1, (by decide), (by decide), (by decide)⟩ (show _ = _ by decide) (by decide +kernel) rfl (by decide +kernel) (by decide) (by decide) (by decide)
theorem good25 : GoodRow ⟨#[111]⟩ ⟨#[49, 40, 48, 41]⟩ ⟨#[48, 49, 40, 49, 41]⟩ ⟨#[40, 48, 41]⟩ :=
  good_o (u := [true]) (v := [false]) (x := [false, true]) (y := [true]) (p := []) (q := [false]) (L := 1) (P := 1) (by decide) (by decide) (by decide) (by decide) (by decide) (by decide) (by decide) (by decide) ⟨0, (by decide), (by decide), (by decide)⟩ (show _ = _ by decide) (by decide +kernel) rfl (by decide +kernel) (by decide) (by decide) (by decide)
theorem good26 : GoodRow ⟨#[101]⟩ ⟨#[40, 49, 48, 48, 48, 48, 48, 48, 48, 48, 48, 48, 41]⟩ ⟨#[40, 49, 48, 48, 48, 48, 48, 48, 48, 48, 48, 48, 48, 48, 41]⟩ ⟨#[45]⟩ :=
  good_eno (.inr (by decide +kernel))
theorem good27 : GoodRow ⟨#[101]⟩ ⟨#[40, 49, 48, 48, 48, 48, 48, 48, 48, 48, 41]⟩ ⟨#[40, 49, 48, 48, 48, 48, 48, 48, 48, 41]⟩ ⟨#[43]⟩ :=
  good_el (u := []) (v := [true, false, false, false, false, false, false, false, false]) (x := []) (y := [true, false, false, false, false, false, false, false]) (P := 72) (by decide) (by decide) (by decide) (by decide) (by decide) (by decide) (by decide) (by decide) (by decide) (by decide) (by decide +kernel)
theorem good28 : GoodRow ⟨#[111]⟩ ⟨#[40, 49, 48, 48, 48, 48, 48, 48, 48, 48, 48, 48, 41]⟩ ⟨#[40, 49, 48, 48, 48, 48, 48, 48, 41]⟩ ⟨#[43]⟩ :=
  good_ol (u := []) (v := [true, false, false, false, false, false, false, false, false, false, false]) (x := []) (y := [true, false, false, false, false, false, false]) (L := 0) (P := 77) (by decide) (by decide) (by decide) (by decide) (by decide) (by decide) (by decide) (by decide) ⟨0, (by decide), (by decide), (by decide)⟩ (show _ = _ by decide) (by decide) (by decide +kernel)

/-- The table's row r: where it lies, what is known of it. -/
theorem K0_known (w : World) (r : Nat) (hr : r < 29) : ∃ (B : Nat) (s0 s1 s2 s3 : ByteArray), (K0 w).cell? ⟨outer w.heap.size, r, none⟩ = some (.slice (some ⟨B, 0, none⟩) 4 4) ∧
    (K0 w).cell? ⟨B, 0, none⟩ = some (.string s0) ∧ (K0 w).cell? ⟨B, 1, none⟩ = some (.string s1) ∧ (K0 w).cell? ⟨B, 2, none⟩ = some (.string s2) ∧ (K0 w).cell? ⟨B, 3, none⟩ = some (.string s3) ∧ B < (K0 w).heap.size ∧ GoodRow s0 s1 s2 s3 ∧ s1.size ≤ maxLen ∧ s2.size ≤ maxLen := by
  have key : ∃ s0 s1 s2 s3 : ByteArray, tblT[r]? = some [s0, s1, s2, s3] ∧ GoodRow s0 s1 s2 s3 ∧ s1.size ≤ maxLen ∧ s2.size ≤ maxLen := by
    have : r = 0 ∨ r = 1 ∨ r = 2 ∨ r = 3 ∨ r = 4 ∨ r = 5 ∨ r = 6 ∨ r = 7 ∨ r = 8 ∨ r = 9 ∨ r = 10 ∨ r = 11 ∨ r = 12 ∨ r = 13 ∨ r = 14 ∨ r = 15 ∨ r = 16 ∨ r = 17 ∨ r = 18 ∨ r = 19 ∨ r = 20 ∨ r = 21 ∨ r = 22 ∨ r = 23 ∨ r = 24 ∨ r = 25 ∨ r = 26 ∨ r = 27 ∨ r = 28 := by omega
    rcases this with rfl | rfl | rfl | rfl | rfl | rfl | rfl | rfl | rfl | rfl | rfl | rfl | rfl | rfl | rfl | rfl | rfl | rfl | rfl | rfl | rfl | rfl | rfl | rfl | rfl | rfl | rfl | rfl | rfl
    · exact ⟨_, _, _, _, rfl, good0, by decide, by decide⟩
    · exact ⟨_, _, _, _, rfl, good1, by decide, by decide⟩
    · exact ⟨_, _, _, _, rfl, good2, by decide, by decide⟩
    · exact ⟨_, _, _, _, rfl, good3, by decide, by decide⟩
    · exact ⟨_, _, _, _, rfl, good4, by decide, by decide⟩
    · exact ⟨_, _, _, _, rfl, good5, by decide, by decide⟩
    · exact ⟨_, _, _, _, rfl, good6, by decide, by decide⟩
    · exact ⟨_, _, _, _, rfl, good7, by decide, by decide⟩
    · exact ⟨_, _, _, _, rfl, good8, by decide, by decide⟩
    · exact ⟨_, _, _, _, rfl, good9, by decide, by decide⟩
    · exact ⟨_, _, _, _, rfl, good10, by decide, by decide⟩
    · exact ⟨_, _, _, _, rfl, good11, by decide, by decide⟩
    · exact ⟨_, _, _, _, rfl, good12, by decide, by decide⟩
    · exact ⟨_, _, _, _, rfl, good13, by decide, by decide⟩
    · exact ⟨_, _, _, _, rfl, good14, by decide, by decide⟩
    · exact ⟨_, _, _, _, rfl, good15, by decide, by decide⟩
    · exact ⟨_, _, _, _, rfl, good16, by decide, by decide⟩
    · exact ⟨_, _, _, _, rfl, good17, by decide, by decide⟩
    · exact ⟨_, _, _, _, rfl, good18, by decide, by decide⟩
    · exact ⟨_, _, _, _, rfl, good19, by decide, by decide⟩
    · exact ⟨_, _, _, _, rfl, good20, by decide, by decide⟩
    · exact ⟨_, _, _, _, rfl, good21, by decide, by decide⟩
    · exact ⟨_, _, _, _, rfl, good22, by decide, by decide⟩
    · exact ⟨_, _, _, _, rfl, good23, by decide, by decide⟩
    · exact ⟨_, _, _, _, rfl, good24, by decide, by decide⟩
    · exact ⟨_, _, _, _, rfl, good25, by decide, by decide⟩
    · exact ⟨_, _, _, _, rfl, good26, by decide, by decide⟩
    · exact ⟨_, _, _, _, rfl, good27, by decide, by decide⟩
    · exact ⟨_, _, _, _, rfl, good28, by decide, by decide⟩
  obtain ⟨s0, s1, s2, s3, ht, hg⟩ := key
  have hrow := K0_row w r _ ht
  refine ⟨w.heap.size + r, s0, s1, s2, s3, K0_outer w r hr, hrow 0, hrow 1, hrow 2, hrow 3, ?_, hg⟩
  exact lt_of_cell (hrow 0)
end Go.Proofs.Ytfbkjopidjojeaa
