/-
  The law Broken of package streamskeep.
-/
import Derived.Test.YtfbkjopidjojeabRows
import Derived.Test.YtfbkjopidjojeabDs
import Derived.WalkKit
import Derived.ProofKit
import Derived.OpenShut
import Derived.ShutString
namespace Go.Proofs.Ytfbkjopidjojeab.broken
open Go.ChangeShapes Go.WideShapes Go.ChangeAt Go.RowKit
open Go.ChangeMaps (open_string shut_string)

theorem own : ownKnob Try.prog.godebug = none := by kernel_rfl

theorem comp_err {t : List UInt8} {f : Flt} (h : compF t = .error f) : f.1 ≠ 0 := by
  unfold compF at h
  cases hs : sourceL t with
  | error g => rw [hs] at h; cases h; exact source_err hs
  | ok ls => rw [hs] at h; exact make_err h
theorem lot_len : ∀ x ∈ lotT, x.1.length ≤ 800 := by
  have h : (lotT.all fun x => decide (x.1.length ≤ 800)) = true := by kernel_rfl
  intro x hx
  have := List.all_eq_true.1 h x hx
  simpa using this

set_option maxRecDepth 100000 in
set_option maxRecDepth 50000 in
set_option maxHeartbeats 2000000 in
theorem walk (a0 : Int) (w0 : (Lit.int .i64 a0).wf = true) (w : World) :
    Calls Try.prog 3 #[.int .i64 a0] w fun e w' => e = .returned (.bool true) ∧ Below w.heap.size w w' := by
  go_enter Try.func3, Try.ntmps3
  go_wp2_with fail
  refine (lot_any w).mono ?_
  rintro e w1 ⟨rfl, hw1⟩
  have hb1 : Below w.heap.size w w1 := by rw [hw1]; exact (Below.refl _ _).alloc (Nat.le_refl _) _
  have hblk : w1.heap[w.heap.size]? = some (.cells lotCells.toArray 26) := by rw [hw1]; exact heap_alloc_new w _
  have hlt1 : w.heap.size < w1.heap.size := by rw [hw1]; simp
  clear hw1
  go_wp2_with fail
  refine (pick_any a0 46 w1 w0 (by omega) (by omega)).mono ?_
  rintro e w2 ⟨⟨r, rfl, hr⟩, hw2⟩
  subst w2
  obtain ⟨⟨t, f⟩, hx, hck⟩ := lot_all r hr
  have hcell : ∀ j, j < 3 → w1.cell? ⟨w.heap.size, r * 3 + j, none⟩ = [Value.string (S t), .int .i64 f.1, .int .i64 f.2][j]? := fun j hj => by
    rw [cell_of_row _ _ _ _ _ _ hblk]
    have := lot_get lotT r j (t, f) hx hj
    simpa [lotCells] using this
  have c0 : w1.cell? ⟨w.heap.size, r * 3, none⟩ = some (.string (S t)) := hcell 0 (by omega)
  have c1 : w1.cell? ⟨w.heap.size, r * 3 + 1, none⟩ = some (.int .i64 f.1) := hcell 1 (by omega)
  have c2 : w1.cell? ⟨w.heap.size, r * 3 + 2, none⟩ = some (.int .i64 f.2) := hcell 2 (by omega)
  have HK := check_ok hck
  have htl : t.length ≤ 800 := lot_len (t, f) (List.mem_of_getElem? hx)
  have HKK : Hid ((f = (0, 0) ∧ ∃ rs, compF t = .ok rs) ∨ compF t = .error f) := HK
  have hr2 : (r : Int) < 46 := by omega
  clear hcell hx hck HK hblk
  go_wp2_with fail
  obtain ⟨W2, hW2⟩ : ∃ W2, W2 = w1.alloc (Obj.cells #[Value.string (S t), Value.int IntKind.i64 f.1, Value.int IntKind.i64 f.2] 26) := ⟨_, rfl⟩
  have hb2 : Below w1.heap.size w1 W2 := by rw [hW2]; exact (Below.refl _ _).alloc (Nat.le_refl _) _
  have hblk2 : W2.heap[w1.heap.size]? = some (.cells #[Value.string (S t), Value.int IntKind.i64 f.1, Value.int IntKind.i64 f.2] 26) := by rw [hW2]; exact heap_alloc_new w1 _
  have hlt2 : w1.heap.size < W2.heap.size := by rw [hW2]; simp
  rw [← hW2]
  clear hW2 c0 c1 c2
  have hcomp := Compile_any (S t) W2 (by rw [S_size]; unfold maxLen; omega)
  rw [S_data] at hcomp
  refine hcomp.mono ?_
  rintro e w3 ⟨hC, hb3⟩
  have HC : Hid (CompIs W2.heap.size (compF t) e w3) := hC
  have hblk3 : w3.heap[w1.heap.size]? = some (.cells #[Value.string (S t), Value.int IntKind.i64 f.1, Value.int IntKind.i64 f.2] 26) := by rw [hb3.block _ hlt2]; exact hblk2
  have d0 : w3.cell? ⟨w1.heap.size, 0, none⟩ = some (.string (S t)) := by rw [cell_of_row _ _ _ _ _ _ hblk3]; rfl
  have d1 : w3.cell? ⟨w1.heap.size, 1, none⟩ = some (.int .i64 f.1) := by rw [cell_of_row _ _ _ _ _ _ hblk3]; rfl
  have d2 : w3.cell? ⟨w1.heap.size, 2, none⟩ = some (.int .i64 f.2) := by rw [cell_of_row _ _ _ _ _ _ hblk3]; rfl
  have hz3 := hb3.size
  have hlt3 : w1.heap.size < w3.heap.size := by omega
  have hbb : Below w.heap.size w w3 := (hb1.trans (hb2.mono (by omega))).trans (hb3.mono (by omega))
  clear hC hcomp hblk2 hblk3
  rcases HKK.out with ⟨rfl, rs, hrs⟩ | herr
  · rcases HC.out with ⟨g, hg, _⟩ | ⟨qs, v, b, _, rfl, _⟩
    · rw [hrs] at hg; cases hg
    · clear HC HKK hrs
      go_wp2
      go_ret
      exact ⟨rfl, hbb.alloc (by omega) _⟩
  · rcases HC.out with ⟨g, hg, rfl⟩ | ⟨qs, v, b, hg, _⟩
    · rw [herr] at hg
      injection hg with hg
      subst hg
      have hnz := comp_err herr
      have hnz2 : ¬ (f.1 : Int) = 0 := by omega
      have hnz3 : ((f.1 : Int) != 0) = true := by simpa using hnz
      clear HC HKK herr hnz
      go_wp2
      go_ret
      exact ⟨rfl, hbb.alloc (by omega) _⟩
    · rw [herr] at hg; cases hg

set_option maxRecDepth 100000 in
theorem lifted (os : Os) (started : os.Started) (H : Type) (enc : TypeId × Value → H) :
    ReturnsInHanded {} Try.checked os 3 .any (Rows.brokenSpec.pre6 enc Try.prog Try.f3 Rows.brokenRow.domain false) (Rows.brokenSpec.post enc Try.prog Try.f3 false true false false) := by
  refine returnsInHanded_of_change (C := Try.checked) own started (by kernel_rfl) Try.func3
    (ChangeSpec.witness6 (enc := enc) (C := Try.checked) false ⟨#[], #[.int .i64 0], []⟩ 8 (by kernel_rfl) (by kernel_rfl) (by kernel_rfl) (by kernel_rfl)) ?_
  intro W base args ds gs before hval0 hW hcnd _
  have hval : ∀ (j : Nat) t v, Try.f3.params[j]? = some t → args[j]? = some v → Value.okWide Try.prog W .any base t v := hval0
  have hW' := hW
  obtain ⟨p, q, hA0, hV, rfl, hfz, hnd⟩ := hW
  have hA : DataW.TrodAll enc Try.prog W 0 (fun _ => true) true Try.f3.params.toList args.toList ds p := hA0
  rw [Try.params3] at hA hval
  obtain ⟨v0, vs0, d0, ds0, p0, q0, hargs, rfl, rfl, h0, r0⟩ := trodAll_cons hA
  obtain ⟨rfl, rfl, rfl⟩ := trodAll_nil r0
  obtain rfl : args = #[v0] := by cases args; simp_all
  obtain ⟨rfl, rfl⟩ := trodVars_none hV
  obtain ⟨a0, rfl, rfl, rfl, w0⟩ := open_int Try.underlying3 (hval 0 3 v0 rfl rfl) h0
  clear hA0 hval0
  simp only [List.append_nil] at hW'
  refine (walk a0 w0 W).mono fun e W' ⟨he, hb⟩ => ?_
  subst he
  exact ⟨_, rfl, _, _, _, [], [], [], hW', trodAll_cons_mk (shut_bool Try.underlying4 _) trodAll_mk0, (trodAll_cons_mk (shut_int Try.underlying3 w0) trodAll_mk0), rfl, hb.frame _, fun h => by cases h⟩

theorem over : Rows.brokenRow.holds Try.pinned (OpenSpec.ofChange Rows.brokenSpec) :=
  OpenClaim.holds_of_wide 3 Try.f3 rfl rfl rfl rfl rfl rfl rfl ⟨rfl, rfl, rfl, rfl, rfl⟩ rfl rfl rfl rfl rfl (by kernel_rfl) Try.func3 (by kernel_rfl)
    (of_decide_eq_true (by kernel_rfl)) (by unfold Func.isWrapper; first | (rw [if_pos (by decide +kernel)]; kernel_rfl) | (rw [if_neg (by decide +kernel)]; exact ⟨rfl, rfl⟩))
    (fun os started H enc _ => lifted os started H enc)

end Go.Proofs.Ytfbkjopidjojeab.broken
namespace Go.Proofs.Ytfbkjopidjojeab
/-- The statement. -/
theorem broken_holds : Rows.BrokenSaid := broken.over
#print axioms broken_holds
end Go.Proofs.Ytfbkjopidjojeab
