/-
  The law Turned of package streamskeep.
-/
import Derived.Test.YtfbkjopidjojeaaRows
import Derived.Test.YtfbkjopidjojeaaWn
import Derived.WalkKit
import Derived.ProofKit
import Derived.OpenShut
import Derived.ShutString
namespace Go.Proofs.Ytfbkjopidjojeaa.turned
open Go.ChangeShapes Go.WideShapes Go.ChangeAt Go.RowKit
open Go.ChangeMaps (open_string shut_string)

theorem own : ownKnob Try.prog.godebug = none := by kernel_rfl

set_option maxRecDepth 50000 in
set_option maxHeartbeats 400000 in
theorem walk (a0 : Int) (w0 : (Lit.int .i64 a0).wf = true) (w : World) :
    Calls Try.prog 4 #[.int .i64 a0] w fun e w' => e = .returned (.bool true) ∧ Below w.heap.size w w' := by
  go_enter Try.func4, Try.ntmps4
  go_wp2_with fail
  refine (word_any a0 12 w w0 (by omega) (by omega)).mono ?_
  rintro e w1 ⟨⟨u, v, rfl, hu, hv, hv0⟩, hb1⟩
  go_wp2_with fail
  refine (normal_word w1 hu hv hv0).mono ?_
  rintro e w2 ⟨⟨x, y, rfl, hn, hx, hy⟩, hb2⟩
  go_wp2_with fail
  refine (not_word w2 hu hv hv0).mono ?_
  rintro e w3 ⟨⟨p, q, rfl, hm, hp, hq⟩, hb3⟩
  go_wp2_with fail
  refine (not_word w3 (by omega) (by omega) hm.ne).mono ?_
  rintro e w4 ⟨⟨p', q', rfl, hm', hp', hq'⟩, hb4⟩
  have hsame : NF (bitAt u v) p' q' := hm'.congr fun n => by rw [hm.bits]; simp
  obtain ⟨rfl, rfl⟩ := hn.unique hsame
  go_wp2_with fail
  refine (either_word w4 hu hv hv0 (by omega) (by omega) hm.ne).mono ?_
  rintro e w5 ⟨h5, hb5⟩
  have e5 : (fun n => bitAt u v n || bitAt p q n) = fun _ => true := by
    funext n; rw [hm.bits]; simp
  rw [e5] at h5
  obtain ⟨a, b, rfl, hab, _, _⟩ := h5.short (EP_const true) (by omega) (by omega)
  obtain ⟨rfl, rfl⟩ := NF_ones.unique hab
  have e6 : txt (bs []) (bs [true]) = ⟨#[40, 49, 41]⟩ := by decide
  rw [e6]
  go_wp2
  go_ret
  exact ⟨rfl, below_two (below_two (below_two (below_two hb1 hb2) hb3) hb4) hb5⟩

set_option maxRecDepth 100000 in
theorem lifted (os : Os) (started : os.Started) (H : Type) (enc : TypeId × Value → H) :
    ReturnsInHanded {} Try.checked os 4 .any (Rows.turnedSpec.pre6 enc Try.prog Try.f4 Rows.turnedRow.domain false) (Rows.turnedSpec.post enc Try.prog Try.f4 false true false false) := by
  refine returnsInHanded_of_change (C := Try.checked) own started (by kernel_rfl) Try.func4
    (ChangeSpec.witness6 (enc := enc) (C := Try.checked) false ⟨#[], #[.int .i64 0], []⟩ 8 (by kernel_rfl) (by kernel_rfl) (by kernel_rfl) (by kernel_rfl)) ?_
  intro W base args ds gs before hval0 hW hcnd _
  have hval : ∀ (j : Nat) t v, Try.f4.params[j]? = some t → args[j]? = some v → Value.okWide Try.prog W .any base t v := hval0
  have hW' := hW
  obtain ⟨p, q, hA0, hV, rfl, hfz, hnd⟩ := hW
  have hA : DataW.TrodAll enc Try.prog W 0 (fun _ => true) true Try.f4.params.toList args.toList ds p := hA0
  rw [Try.params4] at hA hval
  obtain ⟨v0, vs0, d0, ds0, p0, q0, hargs, rfl, rfl, h0, r0⟩ := trodAll_cons hA
  obtain ⟨rfl, rfl, rfl⟩ := trodAll_nil r0
  obtain rfl : args = #[v0] := by cases args; simp_all
  obtain ⟨rfl, rfl⟩ := trodVars_none hV
  obtain ⟨a0, rfl, rfl, rfl, w0⟩ := open_int Try.underlying3 (hval 0 3 v0 rfl rfl) h0
  clear hA0 hval0
  simp only [List.append_nil] at hW'
  refine (walk a0 w0 W).mono fun e W' ⟨he, hb⟩ => ?_
  subst he
  exact ⟨_, rfl, _, _, _, [], [], [], hW', trodAll_cons_mk (shut_bool Try.underlying4 _) trodAll_mk0, (trodAll_cons_mk (shut_int Try.underlying3 w0) trodAll_mk0), rfl, hb.frame _, fun h => by cases h⟩

theorem over : Rows.turnedRow.holds Try.pinned (OpenSpec.ofChange Rows.turnedSpec) :=
  OpenClaim.holds_of_wide 4 Try.f4 rfl rfl rfl rfl rfl rfl rfl ⟨rfl, rfl, rfl, rfl, rfl⟩ rfl rfl rfl rfl rfl (by kernel_rfl) Try.func4 (by kernel_rfl)
    (of_decide_eq_true (by kernel_rfl)) (by unfold Func.isWrapper; first | (rw [if_pos (by decide +kernel)]; kernel_rfl) | (rw [if_neg (by decide +kernel)]; exact ⟨rfl, rfl⟩))
    (fun os started H enc _ => lifted os started H enc)

end Go.Proofs.Ytfbkjopidjojeaa.turned
namespace Go.Proofs.Ytfbkjopidjojeaa
/-- The statement. -/
theorem turned_holds : Rows.TurnedSaid := turned.over
#print axioms turned_holds
end Go.Proofs.Ytfbkjopidjojeaa
