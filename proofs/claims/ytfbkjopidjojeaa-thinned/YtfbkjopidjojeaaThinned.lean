/-
  The law Thinned of package streamskeep.
-/
import Derived.Test.YtfbkjopidjojeaaRows
import Derived.Test.YtfbkjopidjojeaaWn
import Derived.WalkKit
import Derived.ProofKit
import Derived.OpenShut
import Derived.ShutString
namespace Go.Proofs.Ytfbkjopidjojeaa.thinned
open Go.ChangeShapes Go.WideShapes Go.ChangeAt Go.RowKit
open Go.ChangeMaps (open_string shut_string)

theorem own : ownKnob Try.prog.godebug = none := by kernel_rfl

theorem ones_on (f g : Nat → Bool) (n : Nat) : ones (onS f g) n = ones g (ones f n) := by
  induction n with
  | zero => rfl
  | succ n ih =>
    rw [ones, ih]
    cases hf : f n
    · have e : ones f (n + 1) = ones f n := by rw [ones, hf]; rfl
      rw [e]; unfold onS; rw [hf]; rfl
    · have e : ones f (n + 1) = ones f n + 1 := by rw [ones, hf]; rfl
      rw [e, ones]; unfold onS; rw [hf]; rfl
theorem on_assoc (f g h : Nat → Bool) : onS (onS f g) h = onS f (onS g h) := by
  funext n
  show (onS f g n && h (ones (onS f g) n)) = (f n && onS g h (ones f n))
  rw [ones_on]; unfold onS; rw [Bool.and_assoc]
theorem told_two (u v : List Bool) : (toldS u v = ⟨#[]⟩ ∧ toldE u v = 2) ∨ (toldS u v = txt (bs u) (bs v) ∧ toldE u v = 0) := by
  unfold toldS toldE
  by_cases h : 64 < u.length ∨ 64 < v.length
  · rw [if_pos h, if_pos h]; exact .inl ⟨rfl, rfl⟩
  · rw [if_neg h, if_neg h]; exact .inr ⟨rfl, rfl⟩
theorem txt_nonempty (u v : List Bool) : (txt (bs u) (bs v)).toList.isEmpty = false := by
  have h : (txt (bs u) (bs v)).toList.length = u.length + v.length + 2 := by rw [ByteArray.toList_eq, txt_toList, txtL_length]
  cases e : (txt (bs u) (bs v)).toList with
  | nil => rw [e] at h; simp at h
  | cons _ _ => rfl

set_option maxRecDepth 50000 in
set_option maxHeartbeats 400000 in
theorem fine_word {u v : List Bool} (w : World) (hu : u.length ≤ 12) (hv : v.length ≤ 12) (hv0 : v ≠ []) :
    Calls Try.prog 16 #[.string (txt (bs u) (bs v))] w fun e w' => e = .returned (.bool true) ∧ Below w.heap.size w w' := by
  go_enter Try.func16, Try.ntmps16
  go_wp2_with fail
  refine (normal_word w hu hv hv0).mono ?_
  rintro e w1 ⟨⟨x, y, rfl, _, _, _⟩, hb1⟩
  go_wp2
  go_ret
  exact ⟨rfl, hb1⟩

set_option maxRecDepth 50000 in
set_option maxHeartbeats 2000000 in
theorem walk (a0 a1 a2 : Int) (w0 : (Lit.int .i64 a0).wf = true) (w1 : (Lit.int .i64 a1).wf = true) (w2 : (Lit.int .i64 a2).wf = true) (w : World) :
    Calls Try.prog 6 #[.int .i64 a0, .int .i64 a1, .int .i64 a2] w fun e w' => e = .returned (.bool true) ∧ Below w.heap.size w w' := by
  go_enter Try.func6, Try.ntmps6
  go_wp2_with fail
  refine (word_any a0 3 w w0 (by omega) (by omega)).mono ?_
  rintro e v1 ⟨⟨u, v, rfl, hu, hv, hv0⟩, hb1⟩
  go_wp2_with fail
  refine (word_any a1 3 v1 w1 (by omega) (by omega)).mono ?_
  rintro e v2 ⟨⟨x, y, rfl, hx, hy, hy0⟩, hb2⟩
  go_wp2_with fail
  refine (word_any a2 3 v2 w2 (by omega) (by omega)).mono ?_
  rintro e v3 ⟨⟨p, q, rfl, hp, hq, hq0⟩, hb3⟩
  have hb := below_two (below_two hb1 hb2) hb3
  clear hb1 hb2 hb3
  go_wp2_with fail
  refine (on_word v3 (by omega) (by omega) hv0 (by omega) (by omega) hy0).mono ?_
  rintro e v4 ⟨⟨c, d, rfl, hn⟩, hb4⟩
  have hb := below_two hb hb4
  clear hb4
  go_wp2_with fail
  refine (on_word v4 (by omega) (by omega) hy0 (by omega) (by omega) hq0).mono ?_
  rintro e v5 ⟨⟨f, g, rfl, hm⟩, hb5⟩
  have hb := below_two hb hb5
  clear hb5
  rcases told_two c d with ⟨e1, e2⟩ | ⟨e1, e2⟩ <;> rcases told_two f g with ⟨e3, e4⟩ | ⟨e3, e4⟩ <;> rw [e1, e2, e3, e4] <;> clear e1 e2 e3 e4
  case inr.inr =>
    have s1 := txt_size c d
    have s2 := txt_size f g
    have n1 := txt_nonempty c d
    have n2 := txt_nonempty f g
    by_cases l1 : 12 < c.length + d.length
    · go_wp2
      go_ret
      exact ⟨rfl, hb⟩
    by_cases l2 : 12 < f.length + g.length
    · go_wp2
      go_ret
      exact ⟨rfl, hb⟩
    go_wp2_with fail
    refine (on_word v5 (by omega) (by omega) hn.ne (by omega) (by omega) hq0).mono ?_
    rintro e v6 ⟨⟨i, j, rfl, hi⟩, hb6⟩
    have hb := below_two hb hb6
    clear hb6
    go_wp2_with fail
    refine (on_word v6 (by omega) (by omega) hv0 (by omega) (by omega) hm.ne).mono ?_
    rintro e v7 ⟨⟨k, l, rfl, hk⟩, hb7⟩
    have hb := below_two hb hb7
    clear hb7
    have hsame : NF (onS (bitAt u v) (bitAt f g)) i j := by
      rw [ones_fun hn.bits, on_assoc] at hi
      rw [ones_fun hm.bits]; exact hi
    obtain ⟨rfl, rfl⟩ := hk.unique hsame
    rcases told_two k l with ⟨e1, e2⟩ | ⟨e1, e2⟩ <;> rw [e1, e2] <;> clear e1 e2
    all_goals
      go_wp2
      go_ret
      exact ⟨rfl, hb⟩
  all_goals
    go_wp2_with fail
    refine (fine_word v5 (by omega) (by omega) hv0).mono ?_
    rintro e v6 ⟨rfl, hb6⟩
    have hb := below_two hb hb6
    clear hb6
    go_wp2
    go_ret
    exact ⟨rfl, hb⟩

set_option maxRecDepth 100000 in
theorem lifted (os : Os) (started : os.Started) (H : Type) (enc : TypeId × Value → H) :
    ReturnsInHanded {} Try.checked os 6 .any (Rows.thinnedSpec.pre6 enc Try.prog Try.f6 Rows.thinnedRow.domain false) (Rows.thinnedSpec.post enc Try.prog Try.f6 false true false false) := by
  refine returnsInHanded_of_change (C := Try.checked) own started (by kernel_rfl) Try.func6
    (ChangeSpec.witness6 (enc := enc) (C := Try.checked) false ⟨#[], #[.int .i64 0, .int .i64 0, .int .i64 0], []⟩ 8 (by kernel_rfl) (by kernel_rfl) (by kernel_rfl) (by kernel_rfl)) ?_
  intro W base args ds gs before hval0 hW hcnd _
  have hval : ∀ (j : Nat) t v, Try.f6.params[j]? = some t → args[j]? = some v → Value.okWide Try.prog W .any base t v := hval0
  have hW' := hW
  obtain ⟨p, q, hA0, hV, rfl, hfz, hnd⟩ := hW
  have hA : DataW.TrodAll enc Try.prog W 0 (fun _ => true) true Try.f6.params.toList args.toList ds p := hA0
  rw [Try.params6] at hA hval
  obtain ⟨v0, vs0, d0, ds0, p0, q0, hargs, rfl, rfl, h0, r0⟩ := trodAll_cons hA
  obtain ⟨v1, vs1, d1, ds1, p1, q1, rfl, rfl, rfl, h1, r1⟩ := trodAll_cons r0
  obtain ⟨v2, vs2, d2, ds2, p2, q2, rfl, rfl, rfl, h2, r2⟩ := trodAll_cons r1
  obtain ⟨rfl, rfl, rfl⟩ := trodAll_nil r2
  obtain rfl : args = #[v0, v1, v2] := by cases args; simp_all
  obtain ⟨rfl, rfl⟩ := trodVars_none hV
  obtain ⟨a0, rfl, rfl, rfl, w0⟩ := open_int Try.underlying3 (hval 0 3 v0 rfl rfl) h0
  obtain ⟨a1, rfl, rfl, rfl, w1⟩ := open_int Try.underlying3 (hval 1 3 v1 rfl rfl) h1
  obtain ⟨a2, rfl, rfl, rfl, w2⟩ := open_int Try.underlying3 (hval 2 3 v2 rfl rfl) h2
  clear hA0 hval0
  simp only [List.append_nil] at hW'
  refine (walk a0 a1 a2 w0 w1 w2 W).mono fun e W' ⟨he, hb⟩ => ?_
  subst he
  exact ⟨_, rfl, _, _, _, [], [], [], hW', trodAll_cons_mk (shut_bool Try.underlying4 _) trodAll_mk0, (trodAll_cons_mk (shut_int Try.underlying3 w0) (trodAll_cons_mk (shut_int Try.underlying3 w1) (trodAll_cons_mk (shut_int Try.underlying3 w2) trodAll_mk0))), rfl, hb.frame _, fun h => by cases h⟩

theorem over : Rows.thinnedRow.holds Try.pinned (OpenSpec.ofChange Rows.thinnedSpec) :=
  OpenClaim.holds_of_wide 6 Try.f6 rfl rfl rfl rfl rfl rfl rfl ⟨rfl, rfl, rfl, rfl, rfl⟩ rfl rfl rfl rfl rfl (by kernel_rfl) Try.func6 (by kernel_rfl)
    (of_decide_eq_true (by kernel_rfl)) (by unfold Func.isWrapper; first | (rw [if_pos (by decide +kernel)]; kernel_rfl) | (rw [if_neg (by decide +kernel)]; exact ⟨rfl, rfl⟩))
    (fun os started H enc _ => lifted os started H enc)

end Go.Proofs.Ytfbkjopidjojeaa.thinned
namespace Go.Proofs.Ytfbkjopidjojeaa
/-- The statement. -/
theorem thinned_holds : Rows.ThinnedSaid := thinned.over
#print axioms thinned_holds
end Go.Proofs.Ytfbkjopidjojeaa
