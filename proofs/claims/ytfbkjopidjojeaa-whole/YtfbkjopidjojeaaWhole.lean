/-
  The law Whole of package streamskeep.
-/
import Derived.Test.YtfbkjopidjojeaaRows
import Derived.Test.YtfbkjopidjojeaaWn
import Derived.WalkKit
import Derived.ProofKit
import Derived.OpenShut
import Derived.ShutString
namespace Go.Proofs.Ytfbkjopidjojeaa.whole
open Go.ChangeShapes Go.WideShapes Go.ChangeAt Go.RowKit
open Go.ChangeMaps (open_string shut_string)

theorem own : ownKnob Try.prog.godebug = none := by kernel_rfl

theorem e1 : txt (bs []) (bs [true]) = ⟨#[40, 49, 41]⟩ := by decide
theorem e0 : txt (bs []) (bs [false]) = ⟨#[40, 48, 41]⟩ := by decide
theorem b1 : bitAt [] [true] = fun _ => true := funext NF_ones.bits
theorem b0 : bitAt [] [false] = fun _ => false := funext NF_zeros.bits
theorem ones_all (n : Nat) : ones (fun _ => true) n = n := by
  induction n with
  | zero => rfl
  | succ n ih => rw [ones, ih]; rfl
theorem on_left (f : Nat → Bool) : onS (fun _ => true) f = f := by
  funext n; unfold onS; rw [ones_all]; simp
theorem on_right (f : Nat → Bool) : onS f (fun _ => true) = f := by
  funext n; unfold onS; simp
theorem on_none (f : Nat → Bool) : onS f (fun _ => false) = fun _ => false := by
  funext n; unfold onS; simp

set_option maxRecDepth 50000 in
set_option maxHeartbeats 400000 in
theorem walk (a0 : Int) (w0 : (Lit.int .i64 a0).wf = true) (w : World) :
    Calls Try.prog 5 #[.int .i64 a0] w fun e w' => e = .returned (.bool true) ∧ Below w.heap.size w w' := by
  go_enter Try.func5, Try.ntmps5
  go_wp2_with fail
  refine (word_any a0 12 w w0 (by omega) (by omega)).mono ?_
  rintro e w1 ⟨⟨u, v, rfl, hu, hv, hv0⟩, hb1⟩
  have hE := EP_bitAt u v hv0
  go_wp2_with fail
  refine (normal_word w1 hu hv hv0).mono ?_
  rintro e w2 ⟨⟨x, y, rfl, hn, hx, hy⟩, hb2⟩
  go_wp2_with fail
  have k3 := on_word (u := []) (v := [true]) (x := u) (y := v) w2 (by simp) (by simp) (by simp) hu hv hv0
  rw [e1, b1, on_left] at k3
  refine k3.mono ?_
  rintro e w3 ⟨h3, hb3⟩
  obtain ⟨p, q, rfl, hp, _, _⟩ := h3.short hE (by omega) (by omega)
  obtain ⟨rfl, rfl⟩ := hn.unique hp
  clear k3
  go_wp2_with fail
  have k4 := on_word (u := u) (v := v) (x := []) (y := [true]) w3 hu hv hv0 (by simp) (by simp) (by simp)
  rw [e1, b1, on_right] at k4
  refine k4.mono ?_
  rintro e w4 ⟨h4, hb4⟩
  obtain ⟨p, q, rfl, hp, _, _⟩ := h4.short hE (by omega) (by omega)
  obtain ⟨rfl, rfl⟩ := hn.unique hp
  clear k4
  go_wp2_with fail
  have k5 := on_word (u := u) (v := v) (x := []) (y := [false]) w4 hu hv hv0 (by simp) (by simp) (by simp)
  rw [e0, b0, on_none] at k5
  refine k5.mono ?_
  rintro e w5 ⟨h5, hb5⟩
  obtain ⟨p, q, rfl, hp, _, _⟩ := h5.short (EP_const false) (by omega) (by omega)
  obtain ⟨rfl, rfl⟩ := NF_zeros.unique hp
  clear k5
  rw [e0]
  go_wp2
  go_ret
  exact ⟨rfl, below_two (below_two (below_two (below_two hb1 hb2) hb3) hb4) hb5⟩

set_option maxRecDepth 100000 in
theorem lifted (os : Os) (started : os.Started) (H : Type) (enc : TypeId × Value → H) :
    ReturnsInHanded {} Try.checked os 5 .any (Rows.wholeSpec.pre6 enc Try.prog Try.f5 Rows.wholeRow.domain false) (Rows.wholeSpec.post enc Try.prog Try.f5 false true false false) := by
  refine returnsInHanded_of_change (C := Try.checked) own started (by kernel_rfl) Try.func5
    (ChangeSpec.witness6 (enc := enc) (C := Try.checked) false ⟨#[], #[.int .i64 0], []⟩ 8 (by kernel_rfl) (by kernel_rfl) (by kernel_rfl) (by kernel_rfl)) ?_
  intro W base args ds gs before hval0 hW hcnd _
  have hval : ∀ (j : Nat) t v, Try.f5.params[j]? = some t → args[j]? = some v → Value.okWide Try.prog W .any base t v := hval0
  have hW' := hW
  obtain ⟨p, q, hA0, hV, rfl, hfz, hnd⟩ := hW
  have hA : DataW.TrodAll enc Try.prog W 0 (fun _ => true) true Try.f5.params.toList args.toList ds p := hA0
  rw [Try.params5] at hA hval
  obtain ⟨v0, vs0, d0, ds0, p0, q0, hargs, rfl, rfl, h0, r0⟩ := trodAll_cons hA
  obtain ⟨rfl, rfl, rfl⟩ := trodAll_nil r0
  obtain rfl : args = #[v0] := by cases args; simp_all
  obtain ⟨rfl, rfl⟩ := trodVars_none hV
  obtain ⟨a0, rfl, rfl, rfl, w0⟩ := open_int Try.underlying3 (hval 0 3 v0 rfl rfl) h0
  clear hA0 hval0
  simp only [List.append_nil] at hW'
  refine (walk a0 w0 W).mono fun e W' ⟨he, hb⟩ => ?_
  subst he
  exact ⟨_, rfl, _, _, _, [], [], [], hW', trodAll_cons_mk (shut_bool Try.underlying4 _) trodAll_mk0, (trodAll_cons_mk (shut_int Try.underlying3 w0) trodAll_mk0), rfl, hb.frame _, fun h => by cases h⟩

theorem over : Rows.wholeRow.holds Try.pinned (OpenSpec.ofChange Rows.wholeSpec) :=
  OpenClaim.holds_of_wide 5 Try.f5 rfl rfl rfl rfl rfl rfl rfl ⟨rfl, rfl, rfl, rfl, rfl⟩ rfl rfl rfl rfl rfl (by kernel_rfl) Try.func5 (by kernel_rfl)
    (of_decide_eq_true (by kernel_rfl)) (by unfold Func.isWrapper; first | (rw [if_pos (by decide +kernel)]; kernel_rfl) | (rw [if_neg (by decide +kernel)]; exact ⟨rfl, rfl⟩))
    (fun os started H enc _ => lifted os started H enc)

end Go.Proofs.Ytfbkjopidjojeaa.whole
namespace Go.Proofs.Ytfbkjopidjojeaa
/-- The statement. -/
theorem whole_holds : Rows.WholeSaid := whole.over
#print axioms whole_holds
end Go.Proofs.Ytfbkjopidjojeaa
