/-
  Walks over package source: parseOwn, parse.
-/
import Derived.Test.YtfbkjopidjojeabCg
namespace Go.Proofs.Ytfbkjopidjojeab
open Go.RowKit

/-- The world with a line of nothing. -/
def F1 (w : World) : World := w.alloc (Obj.cells #[.int .i64 0, .int .i64 0, .string ⟨#[]⟩, .slice none 0 0, .int .i64 0, .string ⟨#[]⟩, .string ⟨#[]⟩] 85)
theorem F1_size (w : World) : (F1 w).heap.size = w.heap.size + 1 := by simp [F1]
theorem F1_below (w : World) : Below w.heap.size w (F1 w) := (Below.refl w.heap.size w).alloc (Nat.le_refl _) _
theorem F1_r (w : World) : LnB (F1 w) w.heap.size Ln.zero (.slice none 0 0) := by
  unfold LnB F1
  rw [heap_alloc_new]
  rfl
theorem Reads.below {w w' : World} {B : Nat} {v : Value} {size n : Nat} {xs : List Value} (h : Reads w v size n xs) (hb : Below B w w') (hB : w.heap.size ≤ B) : Reads w' v size n xs := by
  obtain ⟨h1, p, cap, h2, h3, h4⟩ := h
  refine ⟨h1, p, cap, h2, h3, h4.imp id fun ⟨b, off, e, hr⟩ => ⟨b, off, e, hr.below hb (by have := hr.1; omega)⟩⟩
theorem own_isSlice {w : World} {B : Nat} {e : TypeId} {size : Nat} {v : Value} {n : Nat} {xs : List Value} (h : w.ownsRow B e size v n xs) : ∃ up un uc, v = .slice up un uc := by
  rcases h.2 with ⟨h, _⟩ | ⟨g, cap, cur, h, _⟩
  · exact ⟨_, _, _, h⟩
  · exact ⟨_, _, _, h⟩

set_option maxRecDepth 50000 in
set_option maxHeartbeats 1000000 in
theorem parseOwn_any (kind : Nat) (own s : ByteArray) (L : List (List UInt8)) (v : Value) (w : World) (ho : own.size ≤ 1048576) (hs : s.size ≤ 1048576) (hL : L.length ≤ 1048576) (hLs : ∀ p ∈ L, p.length ≤ 1048576) (hv : Reads w v 1 L.length (strs L)) :
    Calls Try.prog 57 #[.int .i64 kind, .string own, .string s, v] w fun e w' => Filled w.heap.size (ownL kind own.data.toList s.data.toList L) e w' ∧ Below w.heap.size w w' := by
  have hv1 := hv.below (F1_below w) (Nat.le_refl _)
  have hr0 := F1_r w
  go_enter Try.func57, Try.ntmps57
  cases hok : okN own.data.toList with
  | false =>
    have HO : Hid (ownL kind own.data.toList s.data.toList L = none) := by show ownL _ _ _ _ = none; simp [ownL, hok]
    go_wp2_with (go_at_call 76; refine (readName_any own _ ho).mono ?_; rintro e w1 ⟨hN, hb1⟩; unfold NameIs at hN; rw [hok, if_neg (by simp)] at hN; subst hN; have hb1' : Below (F1 w).heap.size (F1 w) w1 := hb1; have hr1 := hr0.below hb1' (by rw [F1_size]; omega); have d0 := hr1.c 0; have d1 := hr1.c 1; have d2 := hr1.c 2; have d3 := hr1.c 3; have d4 := hr1.c 4; have d5 := hr1.c 5; have d6 := hr1.c 6; simp only [lnCells, Ln.zero, List.getElem?_cons_zero, List.getElem?_cons_succ] at d0 d1 d2 d3 d4 d5 d6; have e0 := hr1.fz 0; have e1 := hr1.fz 1; have e2 := hr1.fz 2; have e3 := hr1.fz 3; have e4 := hr1.fz 4; have e5 := hr1.fz 5; have e6 := hr1.fz 6)
    have hq := set7_blk hr1 (.int .i64 0) (.int .i64 0) (.string ⟨#[]⟩) (.slice none 0 0) (.int .i64 0) (.string ⟨#[]⟩) (.string ⟨#[]⟩)
    have q0 := hq 0; have q1 := hq 1; have q2 := hq 2; have q3 := hq 3; have q4 := hq 4; have q5 := hq 5; have q6 := hq 6
    simp only [set7, List.getElem?_cons_zero, List.getElem?_cons_succ] at q0 q1 q2 q3 q4 q5 q6
    refine bodyPost_ret (v := .tuple #[.agg #[.int .i64 0, .int .i64 0, .string ⟨#[]⟩, .slice none 0 0, .int .i64 0, .string ⟨#[]⟩, .string ⟨#[]⟩], .bool false]) (by simp [results, Try.results57, go_sem, q0, q1, q2, q3, q4, q5, q6]) rfl ⟨?_, ?_⟩
    · exact .inl ⟨HO.out, rfl⟩
    · exact ((F1_below w).trans (hb1'.mono (by rw [F1_size]; omega))).trans (set7_below (Nat.le_refl _) _ _ _ _ _ _ _)
  | true =>
    have HO : Hid (ownL kind own.data.toList s.data.toList L = fillL { Ln.zero with kind := kind, name := own.data.toList } s.data.toList L) := by show ownL _ _ _ _ = _; simp [ownL, hok]
    go_wp2_with (go_at_call 76; refine (readName_any own _ ho).mono ?_; rintro e w1 ⟨hN, hb1⟩; unfold NameIs at hN; rw [hok, if_pos rfl, S_of] at hN; subst hN; have hb1' : Below (F1 w).heap.size (F1 w) w1 := hb1; have hr1 := hr0.below hb1' (by rw [F1_size]; omega); have hv2 := hv1.below hb1' (Nat.le_refl _))
    have hcall := fill_any { Ln.zero with kind := kind, name := own.data.toList } s L v w1 hs hL hLs rfl hv2
    rw [S_of] at hcall
    refine hcall.mono ?_
    rintro e w2 ⟨hF, hb2⟩
    have hz := hb1'.size
    rw [F1_size] at hz
    have hbel : Below w.heap.size w w2 := ((F1_below w).trans (hb1'.mono (by rw [F1_size]; omega))).trans (hb2.mono (by omega))
    have hr2 := hr1.below hb2 (by omega)
    have HF : Hid (Filled w1.heap.size (fillL { Ln.zero with kind := kind, name := own.data.toList } s.data.toList L) e w2) := hF
    have d0 := hr2.c 0; have d1 := hr2.c 1; have d2 := hr2.c 2; have d3 := hr2.c 3; have d4 := hr2.c 4; have d5 := hr2.c 5; have d6 := hr2.c 6
    simp only [lnCells, Ln.zero, List.getElem?_cons_zero, List.getElem?_cons_succ] at d0 d1 d2 d3 d4 d5 d6
    have e0 := hr2.fz 0; have e1 := hr2.fz 1; have e2 := hr2.fz 2; have e3 := hr2.fz 3; have e4 := hr2.fz 4; have e5 := hr2.fz 5; have e6 := hr2.fz 6
    clear hF hcall
    rcases HF.out with ⟨h1, rfl⟩ | ⟨l, u, h1, rfl, hown⟩
    · have H1 : Hid (fillL { Ln.zero with kind := kind, name := own.data.toList } s.data.toList L = none) := h1
      clear h1 HF
      go_wp2
      have hq := set7_blk hr2 (.int .i64 0) (.int .i64 0) (.string ⟨#[]⟩) (.slice none 0 0) (.int .i64 0) (.string ⟨#[]⟩) (.string ⟨#[]⟩)
      have q0 := hq 0; have q1 := hq 1; have q2 := hq 2; have q3 := hq 3; have q4 := hq 4; have q5 := hq 5; have q6 := hq 6
      simp only [set7, List.getElem?_cons_zero, List.getElem?_cons_succ] at q0 q1 q2 q3 q4 q5 q6
      refine bodyPost_ret (v := .tuple #[.agg #[.int .i64 0, .int .i64 0, .string ⟨#[]⟩, .slice none 0 0, .int .i64 0, .string ⟨#[]⟩, .string ⟨#[]⟩], .bool false]) (by simp [results, Try.results57, go_sem, q0, q1, q2, q3, q4, q5, q6]) rfl ⟨?_, ?_⟩
      · exact .inl ⟨HO.out.trans H1.out, rfl⟩
      · exact hbel.trans (set7_below (Nat.le_refl _) _ _ _ _ _ _ _)
    · have H1 : Hid (fillL { Ln.zero with kind := kind, name := own.data.toList } s.data.toList L = some l) := h1
      obtain ⟨up, un, uc, rfl⟩ := own_isSlice hown
      clear h1 HF
      go_wp2
      have hq := set7_blk hr2 (.int .i64 l.no) (.int .i64 l.kind) (.string (S l.name)) (.slice up un uc) (.int .i64 l.num) (.string (bs l.wd.1)) (.string (bs l.wd.2))
      have q0 := hq 0; have q1 := hq 1; have q2 := hq 2; have q3 := hq 3; have q4 := hq 4; have q5 := hq 5; have q6 := hq 6
      simp only [set7, List.getElem?_cons_zero, List.getElem?_cons_succ] at q0 q1 q2 q3 q4 q5 q6
      refine bodyPost_ret (v := .tuple #[.agg #[.int .i64 l.no, .int .i64 l.kind, .string (S l.name), .slice up un uc, .int .i64 l.num, .string (bs l.wd.1), .string (bs l.wd.2)], .bool true]) (by simp [results, Try.results57, go_sem, q0, q1, q2, q3, q4, q5, q6]) rfl ⟨?_, ?_⟩
      · exact .inr ⟨l, _, HO.out.trans H1.out, rfl, own_mono (set7_own (r := w.heap.size) (by omega) _ _ _ _ _ _ _ hown) (by omega)⟩
      · exact hbel.trans (set7_below (Nat.le_refl _) _ _ _ _ _ _ _)
end Go.Proofs.Ytfbkjopidjojeab
