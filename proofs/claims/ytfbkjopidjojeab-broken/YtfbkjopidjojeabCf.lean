/-
  Walks over package source: take.
-/
import Derived.Test.YtfbkjopidjojeabCe
namespace Go.Proofs.Ytfbkjopidjojeab
open Go.RowKit

/-- A line as cells. -/
def lnCells (l : Ln) (u : Value) : List Value := [.int .i64 l.no, .int .i64 l.kind, .string (S l.name), u, .int .i64 l.num, .string (bs l.wd.1), .string (bs l.wd.2)]
/-- A line in a block of its own. -/
def LnB (w : World) (b : Nat) (l : Ln) (u : Value) : Prop := w.heap[b]? = some (.cells (lnCells l u).toArray 85 (0, 0))

/-- But for block b all is as it was below B. -/
structure Keep (b B : Nat) (w w' : World) : Prop where
  os : w'.os = w.os
  tape : w'.tape = w.tape
  output : w'.output = w.output
  size : w.heap.size ≤ w'.heap.size
  block : ∀ k, k < B → k ≠ b → w'.heap[k]? = w.heap[k]?
theorem Keep.below {b B : Nat} {w w' : World} (h : Keep b B w w') (hb : b ≤ B) : Below b w w' := ⟨h.os, h.tape, h.output, h.size, fun k hk => h.block k (by omega) (by omega)⟩
theorem Keep.of {b B : Nat} {w w' : World} (h : Below B w w') : Keep b B w w' := ⟨h.os, h.tape, h.output, h.size, fun k hk _ => h.block k hk⟩
theorem Keep.trans {b B : Nat} {w w' w'' : World} (h : Keep b B w w') (k : Keep b B w' w'') : Keep b B w w'' :=
  ⟨k.os.trans h.os, k.tape.trans h.tape, k.output.trans h.output, Nat.le_trans h.size k.size, fun i hi hb => (k.block i hi hb).trans (h.block i hi hb)⟩
theorem Keep.set {b B : Nat} {w : World} (j : Nat) (u : Value) : Keep b B w (w.setCell ⟨b, j, none⟩ u) :=
  ⟨rfl, rfl, rfl, by simp [World.setCell], fun k _ hb => heap_setCell_other w ⟨b, j, none⟩ k u hb⟩

theorem LnB.c {w : World} {b : Nat} {l : Ln} {u : Value} (h : LnB w b l u) (j : Nat) : w.cell? ⟨b, j, none⟩ = (lnCells l u)[j]? := by
  rw [cell_of_row w b j _ _ _ h]; simp
theorem LnB.fz {w : World} {b : Nat} {l : Ln} {u : Value} (h : LnB w b l u) (j : Nat) : w.frozen? ⟨b, j, none⟩ = false := frozen_of_row w b j _ _ h
theorem LnB.lt {w : World} {b : Nat} {l : Ln} {u : Value} (h : LnB w b l u) : b < w.heap.size := (Array.getElem?_eq_some_iff.1 h).1
theorem LnB.below {w w' : World} {B b : Nat} {l : Ln} {u : Value} (h : LnB w b l u) (hb : Below B w w') (hB : b < B) : LnB w' b l u := by
  unfold LnB; rw [hb.block b hB]; exact h

/-- What take gives. -/
def Took (B b : Nat) (l : Ln) (c : UInt8) (p : List UInt8) (e : Ending) (w' : World) : Prop :=
  e = .returned (.bool (takeL l c p).isSome) ∧ ∀ l', takeL l c p = some l' → ∃ u', LnB w' b l' u' ∧ w'.ownsRow B 9 1 u' l'.uses.length (strs l'.uses)

theorem take_n {l : Ln} {c : UInt8} {p : List UInt8} (h : (c.toNat : Int) = 110) : takeL l c p = (numL p).map fun n => { l with num := n } := by
  have : (c == 110) = true := by rw [beq_iff_eq]; apply UInt8.toNat_inj.1; show c.toNat = 110; omega
  simp [takeL, this]
theorem take_w {l : Ln} {c : UInt8} {p : List UInt8} (h : (c.toNat : Int) = 119) : takeL l c p = (wdL p).map fun n => { l with wd := n } := by
  have : (c == 119) = true := by rw [beq_iff_eq]; apply UInt8.toNat_inj.1; show c.toNat = 119; omega
  have h2 : (c == 110) = false := by rw [beq_eq_false_iff_ne]; intro e; rw [e] at h; revert h; decide
  simp [takeL, this, h2]
theorem take_a {l : Ln} {c : UInt8} {p : List UInt8} (h : ¬ (c.toNat : Int) = 110) (h' : ¬ (c.toNat : Int) = 119) : takeL l c p = if okN p then some { l with uses := l.uses ++ [p] } else none := by
  have h1 : (c == 110) = false := by rw [beq_eq_false_iff_ne]; intro e; apply h; rw [e]; rfl
  have h2 : (c == 119) = false := by rw [beq_eq_false_iff_ne]; intro e; apply h'; rw [e]; rfl
  simp [takeL, h1, h2]

set_option maxRecDepth 50000 in
set_option maxHeartbeats 1000000 in
theorem take_num (l : Ln) (u : Value) (c : UInt8) (s : ByteArray) (b B : Nat) (w : World) (hs : s.size ≤ 1048576) (hb : LnB w b l u) (hbB : b < B) (hB : B ≤ w.heap.size)
    (hown : w.ownsRow B 9 1 u l.uses.length (strs l.uses)) (hc : (c.toNat : Int) = 110) :
    Calls Try.prog 77 #[.pointer (some ⟨b, 0, none⟩), .int .u8 c.toNat, .string s] w fun e w' => Took B b l c s.data.toList e w' ∧ Keep b B w w' := by
  have HT : Hid (takeL l c s.data.toList = (numL s.data.toList).map fun n => { l with num := n }) := take_n hc
  go_enter Try.func77, Try.ntmps77
  go_wp2_with (go_at_call 95; refine (readNumber_any s _ hs).mono ?_; rintro e w1 ⟨hN, hb1⟩; unfold NumIs at hN; subst hN; have hb' := hb.below hb1 hb.lt; have c4 := hb'.c 4; have f4 := hb'.fz 4; simp [lnCells] at c4)
  go_ret
  have hk := (Keep.of (b := b) (hb1.mono hB)).trans (Keep.set (b := b) (B := B) (w := w1) 4 (.int .i64 ((numL s.data.toList).getD 0)))
  refine ⟨⟨by rw [HT.out]; simp, fun l' hl' => ⟨u, ?_, ?_⟩⟩, hk⟩
  · rw [HT.out] at hl'
    cases e : numL s.data.toList with
    | none => rw [e] at hl'; cases hl'
    | some n =>
      rw [e] at hl'; cases hl'
      have := heap_setCell_same w1 b 4 _ _ (.int .i64 n) hb'
      simpa [LnB, lnCells] using this
  · have hu : l'.uses = l.uses := by
      rw [HT.out] at hl'
      cases e : numL s.data.toList with
      | none => rw [e] at hl'; cases hl'
      | some n => rw [e] at hl'; cases hl'; rfl
    rw [hu]
    exact ownsRow_setCell_below (ownsRow_below hown hb1) hbB _

theorem own_form {w : World} {B : Nat} {e : TypeId} {size : Nat} {v : Value} {n : Nat} {xs : List Value} (h : w.ownsRow B e size v n xs) (hn : 0 < n) : ∃ g cap, v = .slice (some ⟨g, 0, none⟩) n cap := by
  rcases h.2 with ⟨_, h2⟩ | ⟨g, cap, cur, hv, _⟩
  · omega
  · exact ⟨g, cap, hv⟩

theorem blk_set {w : World} {b j : Nat} {xs : List Value} {t : TypeId} (h : w.heap[b]? = some (.cells xs.toArray t (0, 0))) (v : Value) : (w.setCell ⟨b, j, none⟩ v).heap[b]? = some (.cells (xs.set j v).toArray t (0, 0)) := by
  have := heap_setCell_same w b j _ _ v h
  simpa using this

set_option maxRecDepth 50000 in
set_option maxHeartbeats 1000000 in
theorem take_wd (l : Ln) (u : Value) (c : UInt8) (s : ByteArray) (b B : Nat) (w : World) (hs : s.size ≤ 1048576) (hb : LnB w b l u) (hbB : b < B) (hB : B ≤ w.heap.size)
    (hown : w.ownsRow B 9 1 u l.uses.length (strs l.uses)) (hc : (c.toNat : Int) = 119) :
    Calls Try.prog 77 #[.pointer (some ⟨b, 0, none⟩), .int .u8 c.toNat, .string s] w fun e w' => Took B b l c s.data.toList e w' ∧ Keep b B w w' := by
  have HT : Hid (takeL l c s.data.toList = (wdL s.data.toList).map fun n => { l with wd := n }) := take_w hc
  go_enter Try.func77, Try.ntmps77
  go_wp2_with (go_at_call 96; refine (Parse_m s _ hs).mono ?_; rintro e w1 ⟨⟨x, y, rfl, HX⟩, hb1⟩; have hb' := hb.below hb1 hb.lt; have hlt := hb'.lt; have hA : ∀ o, LnB (w1.alloc o) b l u := fun o => hb'.below ((Below.refl w1.heap.size w1).alloc (Nat.le_refl _) o) hlt; have c5 : w1.cell? ⟨b, 5, none⟩ = some (.string (bs l.wd.1)) := hb'.c 5; have c6 : w1.cell? ⟨b, 6, none⟩ = some (.string (bs l.wd.2)) := hb'.c 6; have f5 := hb'.fz 5; have f6 := hb'.fz 6)
  go_ret
  have hbw : B ≤ w1.heap.size := by have := hb1.size; omega
  have hk := (((Keep.of (b := b) (hb1.mono hB)).trans (Keep.set (b := b) (B := B) 5 (.string (bs x)))).trans (Keep.set (b := b) (B := B) 6 (.string (bs y)))).trans (Keep.of (b := b) ((Below.refl B _).alloc (by simpa [World.setCell] using hbw) (Obj.cells #[Value.string (bs x), Value.string (bs y)] 74)))
  refine ⟨⟨by rw [HT.out]; simp, fun l' hl' => ⟨u, ?_, ?_⟩⟩, hk⟩
  · rw [HT.out] at hl'
    cases e : wdL s.data.toList with
    | none => rw [e] at hl'; cases hl'
    | some n =>
      rw [e] at hl'; cases hl'
      have hn := (HX.out n e).1
      have := blk_set (j := 6) (blk_set (j := 5) hb' (.string (bs x))) (.string (bs y))
      have h3 := ((Below.refl w1.heap.size ((w1.setCell ⟨b, 5, none⟩ (.string (bs x))).setCell ⟨b, 6, none⟩ (.string (bs y)))).alloc (by simp [World.setCell]) (Obj.cells #[Value.string (bs x), Value.string (bs y)] 74)).block b hlt
      unfold LnB
      rw [h3, this, hn]; rfl
  · have hu : l'.uses = l.uses := by
      rw [HT.out] at hl'
      cases e : wdL s.data.toList with
      | none => rw [e] at hl'; cases hl'
      | some n => rw [e] at hl'; cases hl'; rfl
    rw [hu]
    exact (ownsRow_setCell_below (ownsRow_setCell_below (ownsRow_below hown hb1) hbB _) hbB _).alloc _

set_option maxRecDepth 50000 in
set_option maxHeartbeats 1000000 in
theorem take_name (l : Ln) (u : Value) (c : UInt8) (s : ByteArray) (b B : Nat) (w : World) (hs : s.size ≤ 1048576) (hb : LnB w b l u) (hbB : b < B) (hB : B ≤ w.heap.size)
    (hown : w.ownsRow B 9 1 u l.uses.length (strs l.uses)) (hul : l.uses.length ≤ 1048576) (hc : ¬ (c.toNat : Int) = 110) (hc' : ¬ (c.toNat : Int) = 119) :
    Calls Try.prog 77 #[.pointer (some ⟨b, 0, none⟩), .int .u8 c.toNat, .string s] w fun e w' => Took B b l c s.data.toList e w' ∧ Keep b B w w' := by
  have HT : Hid (takeL l c s.data.toList = if okN s.data.toList then some { l with uses := l.uses ++ [s.data.toList] } else none) := take_a hc hc'
  obtain ⟨i0, hi, hz0, hz1, hz2⟩ := info_parts Try.info9
  go_enter Try.func77, Try.ntmps77
  go_wp2_with (first
    | (go_at_call 76; refine (readName_any s _ hs).mono ?_; rintro e w1 ⟨hN, hb1⟩; unfold NameIs at hN; generalize hx : (if okN s.data.toList = true then S s.data.toList else ⟨#[]⟩) = x at hN; have HX : Hid ((if okN s.data.toList = true then S s.data.toList else ⟨#[]⟩) = x) := hx; clear hx; subst hN; have hb' := hb.below hb1 hb.lt; have hlt := hb'.lt; have c3 : w1.cell? ⟨b, 3, none⟩ = some u := hb'.c 3; have hown1 := ownsRow_below hown hb1; have hbw : B ≤ w1.heap.size := (by have := hb1.size; omega))
    | (at_builtin; refine wpList_append_own _ rfl _ _ 43 rfl B 9 i0 (.string ⟨#[]⟩) 1 16 Try.under43 hi hz0 hz1 hz2 rfl (by decide) _ _ _ rfl (hown1.alloc _) ⟨w1.heap.size, 0, none⟩ 1 1 [.string x] rfl rfl (cell_one_new _ _ _) (by intro x hx; simp at hx; subst hx; rfl) (by unfold maxLen; omega) (by omega) (by simp; omega) ?_; intro v' w' hown' hgrow _; obtain ⟨vg, vc, rfl⟩ := own_form hown' (by omega); have hbel : Below B w1 w' := ((Below.refl B w1).alloc hbw _).grown hgrow (by simp; omega) (fun j hj => (hown1.lt j hj).1); have hb2 := hb'.below hbel hbB; have c3' : w'.cell? ⟨b, 3, none⟩ = some u := hb2.c 3; have f3' := hb2.fz 3))
  go_ret
  have hk := ((Keep.of (b := b) (B := B) (w := w) (w' := w') ((hb1.mono hB).trans hbel)).trans (Keep.set (b := b) (B := B) (w := w') 3 (.slice (some ⟨vg, 0, none⟩) (l.uses.length + 1) vc)))
  refine ⟨⟨by rw [HT.out]; split <;> simp_all, fun l' hl' => ⟨.slice (some ⟨vg, 0, none⟩) (l.uses.length + 1) vc, ?_⟩⟩, hk⟩
  rw [HT.out] at hl'
  split at hl'
  · rename_i hok
    cases hl'
    have e1 := HX.out
    rw [if_pos hok] at e1
    refine ⟨?_, ?_⟩
    · have := blk_set (j := 3) hb2 (.slice (some ⟨vg, 0, none⟩) (l.uses.length + 1) vc)
      simpa [LnB, lnCells] using this
    · have h2 := ownsRow_setCell_below hown' (a := ⟨b, 3, none⟩) hbB (.slice (some ⟨vg, 0, none⟩) (l.uses.length + 1) vc)
      rw [← e1] at h2
      simpa [strs] using h2
  · cases hl'

theorem take_any (l : Ln) (u : Value) (c : UInt8) (s : ByteArray) (b B : Nat) (w : World) (hs : s.size ≤ 1048576) (hb : LnB w b l u) (hbB : b < B) (hB : B ≤ w.heap.size)
    (hown : w.ownsRow B 9 1 u l.uses.length (strs l.uses)) (hul : l.uses.length ≤ 1048576) :
    Calls Try.prog 77 #[.pointer (some ⟨b, 0, none⟩), .int .u8 c.toNat, .string s] w fun e w' => Took B b l c s.data.toList e w' ∧ Keep b B w w' := by
  by_cases h1 : (c.toNat : Int) = 110
  · exact take_num l u c s b B w hs hb hbB hB hown h1
  by_cases h2 : (c.toNat : Int) = 119
  · exact take_wd l u c s b B w hs hb hbB hB hown h2
  · exact take_name l u c s b B w hs hb hbB hB hown hul h1 h2
end Go.Proofs.Ytfbkjopidjojeab
