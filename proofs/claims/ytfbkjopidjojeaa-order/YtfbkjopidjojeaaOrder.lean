/-
  The law Order of package streamskeep.
-/
import Derived.Test.YtfbkjopidjojeaaRows
import Derived.Test.YtfbkjopidjojeaaWn
import Derived.WalkKit
import Derived.ProofKit
import Derived.OpenShut
import Derived.ShutString
namespace Go.Proofs.Ytfbkjopidjojeaa.order
open Go.ChangeShapes Go.WideShapes Go.ChangeAt Go.RowKit
open Go.ChangeMaps (open_string shut_string)

theorem own : ownKnob Try.prog.godebug = none := by kernel_rfl

theorem e1 : txt (bs []) (bs [true]) = ⟨#[40, 49, 41]⟩ := by decide
theorem b1 : bitAt [] [true] = fun _ => true := funext NF_ones.bits
theorem bool_of {r : Bool} {P : Prop} (h : r = true ↔ P) : (P ∧ r = true) ∨ (¬ P ∧ r = false) := by
  cases r
  · exact .inr ⟨fun p => absurd (h.2 p) (by simp), rfl⟩
  · exact .inl ⟨h.1 rfl, rfl⟩
theorem ahead_self (f : Nat → Bool) : AheadS f f := fun n => by unfold dif; omega
theorem ahead_top (f : Nat → Bool) : AheadS (fun _ => true) f := fun n => by
  have e : ones (fun _ => true) n = n := by
    induction n with
    | zero => rfl
    | succ n ih => rw [ones, ih]; rfl
  have := ones_le f n
  unfold dif; rw [e]; omega
theorem ahead_trans {f g h : Nat → Bool} (a : AheadS f g) (b : AheadS g h) : AheadS f h := fun n => by
  have := a n; have := b n; unfold dif at *; omega
theorem ahead_anti {f g : Nat → Bool} (a : AheadS f g) (b : AheadS g f) : f = g := by
  have e : ∀ n, ones f n = ones g n := fun n => by have := a n; have := b n; unfold dif at *; omega
  funext n
  have h1 := e n
  have h2 := e (n + 1)
  rw [ones, ones, h1] at h2
  cases hf : f n <;> cases hg : g n <;> simp_all
theorem text_ne {s t : ByteArray} (h : s ≠ t) : (s.toList == t.toList) = false := by
  rw [beq_eq_false_iff_ne]
  intro e
  rw [ByteArray.toList_eq, ByteArray.toList_eq] at e
  exact h (WideShapes.bytes_inj e)

set_option maxRecDepth 50000 in
set_option maxHeartbeats 2000000 in
theorem walk (a0 a1 a2 : Int) (w0 : (Lit.int .i64 a0).wf = true) (w1 : (Lit.int .i64 a1).wf = true) (w2 : (Lit.int .i64 a2).wf = true) (w : World) :
    Calls Try.prog 7 #[.int .i64 a0, .int .i64 a1, .int .i64 a2] w fun e w' => e = .returned (.bool true) ∧ Below w.heap.size w w' := by
  go_enter Try.func7, Try.ntmps7
  go_wp2_with fail
  refine (word_any a0 5 w w0 (by omega) (by omega)).mono ?_
  rintro e v1 ⟨⟨u, v, rfl, hu, hv, hv0⟩, hb1⟩
  go_wp2_with fail
  refine (word_any a1 5 v1 w1 (by omega) (by omega)).mono ?_
  rintro e v2 ⟨⟨x, y, rfl, hx, hy, hy0⟩, hb2⟩
  go_wp2_with fail
  refine (word_any a2 5 v2 w2 (by omega) (by omega)).mono ?_
  rintro e v3 ⟨⟨p, q, rfl, hp, hq, hq0⟩, hb3⟩
  have hb := below_two (below_two hb1 hb2) hb3
  clear hb1 hb2 hb3
  go_wp2_with fail
  refine (ahead_word v3 (by omega) (by omega) hv0 (by omega) (by omega) hv0).mono ?_
  rintro e v4 ⟨⟨r1, rfl, hr1⟩, hb4⟩
  have hb := below_two hb hb4
  have t1 : r1 = true := hr1.out.2 (ahead_self _)
  subst t1
  clear hr1 hb4
  go_wp2_with fail
  have k := ahead_word (u := []) (v := [true]) (x := u) (y := v) v4 (by simp) (by simp) (by simp) (by omega) (by omega) hv0
  rw [e1, b1] at k
  refine k.mono ?_
  rintro e v5 ⟨⟨r2, rfl, hr2⟩, hb5⟩
  have hb := below_two hb hb5
  have t2 : r2 = true := hr2.out.2 (ahead_top _)
  subst t2
  clear hr2 hb5 k
  go_wp2_with fail
  refine (ahead_word v5 (by omega) (by omega) hv0 (by omega) (by omega) hy0).mono ?_
  rintro e v6 ⟨⟨r3, rfl, hr3⟩, hb6⟩
  have hb := below_two hb hb6
  clear hb6
  go_wp2_with fail
  refine (ahead_word v6 (by omega) (by omega) hy0 (by omega) (by omega) hv0).mono ?_
  rintro e v7 ⟨⟨r4, rfl, hr4⟩, hb7⟩
  have hb := below_two hb hb7
  clear hb7
  go_wp2_with fail
  refine (ahead_word v7 (by omega) (by omega) hy0 (by omega) (by omega) hq0).mono ?_
  rintro e v8 ⟨⟨r5, rfl, hr5⟩, hb8⟩
  have hb := below_two hb hb8
  clear hb8
  go_wp2_with fail
  refine (ahead_word v8 (by omega) (by omega) hv0 (by omega) (by omega) hq0).mono ?_
  rintro e v9 ⟨⟨r6, rfl, hr6⟩, hb9⟩
  have hb := below_two hb hb9
  clear hb9
  go_wp2_with fail
  refine (normal_word v9 (by omega) (by omega) hv0).mono ?_
  rintro e va ⟨⟨m1, m2, rfl, hm, _, _⟩, hba⟩
  have hb := below_two hb hba
  clear hba
  go_wp2_with fail
  refine (normal_word va (by omega) (by omega) hy0).mono ?_
  rintro e vb ⟨⟨n1, n2, rfl, hn, _, _⟩, hbb⟩
  have hb := below_two hb hbb
  clear hbb
  have hdiff : ¬ (AheadS (bitAt u v) (bitAt x y) ∧ AheadS (bitAt x y) (bitAt u v)) → ((txt (bs m1) (bs m2)).toList == (txt (bs n1) (bs n2)).toList) = false := fun hno => text_ne fun e => hno (by
    obtain ⟨rfl, rfl⟩ := txt_inj e
    have hfg : bitAt u v = bitAt x y := funext fun n => by rw [← hm.bits, ← hn.bits]
    rw [hfg]; exact ⟨ahead_self _, ahead_self _⟩)
  have HD : Hid _ := hdiff
  clear hdiff
  have hac : AheadS (bitAt u v) (bitAt x y) → AheadS (bitAt x y) (bitAt p q) → AheadS (bitAt u v) (bitAt p q) := ahead_trans
  rcases bool_of hr3.out with ⟨hA, rfl⟩ | ⟨hA, rfl⟩ <;> rcases bool_of hr4.out with ⟨hB, rfl⟩ | ⟨hB, rfl⟩ <;> clear hr3 hr4
  · have hfg := ahead_anti hA hB
    rw [← hfg] at hn
    obtain ⟨rfl, rfl⟩ := hm.unique hn
    clear HD hfg
    rcases bool_of hr5.out with ⟨hC, rfl⟩ | ⟨hC, rfl⟩ <;> rcases bool_of hr6.out with ⟨hD, rfl⟩ | ⟨hD, rfl⟩ <;> clear hr5 hr6
    case inl.inr => exact absurd (hac hA hC) hD
    all_goals
      clear hA hB hC hD hac
      go_wp2
      go_ret
      exact ⟨rfl, hb⟩
  · have hne := HD.out (fun h => hB h.2)
    clear HD
    rcases bool_of hr5.out with ⟨hC, rfl⟩ | ⟨hC, rfl⟩ <;> rcases bool_of hr6.out with ⟨hD, rfl⟩ | ⟨hD, rfl⟩ <;> clear hr5 hr6
    case inl.inr => exact absurd (hac hA hC) hD
    all_goals
      clear hA hB hC hD hac
      go_wp2
      go_ret
      exact ⟨rfl, hb⟩
  · have hne := HD.out (fun h => hA h.1)
    clear HD hr5 hr6 hA hB hac
    go_wp2
    go_ret
    exact ⟨rfl, hb⟩
  · have hne := HD.out (fun h => hA h.1)
    clear HD hr5 hr6 hA hB hac
    go_wp2
    go_ret
    exact ⟨rfl, hb⟩

set_option maxRecDepth 100000 in
theorem lifted (os : Os) (started : os.Started) (H : Type) (enc : TypeId × Value → H) :
    ReturnsInHanded {} Try.checked os 7 .any (Rows.orderSpec.pre6 enc Try.prog Try.f7 Rows.orderRow.domain false) (Rows.orderSpec.post enc Try.prog Try.f7 false true false false) := by
  refine returnsInHanded_of_change (C := Try.checked) own started (by kernel_rfl) Try.func7
    (ChangeSpec.witness6 (enc := enc) (C := Try.checked) false ⟨#[], #[.int .i64 0, .int .i64 0, .int .i64 0], []⟩ 8 (by kernel_rfl) (by kernel_rfl) (by kernel_rfl) (by kernel_rfl)) ?_
  intro W base args ds gs before hval0 hW hcnd _
  have hval : ∀ (j : Nat) t v, Try.f7.params[j]? = some t → args[j]? = some v → Value.okWide Try.prog W .any base t v := hval0
  have hW' := hW
  obtain ⟨p, q, hA0, hV, rfl, hfz, hnd⟩ := hW
  have hA : DataW.TrodAll enc Try.prog W 0 (fun _ => true) true Try.f7.params.toList args.toList ds p := hA0
  rw [Try.params7] at hA hval
  obtain ⟨v0, vs0, d0, ds0, p0, q0, hargs, rfl, rfl, h0, r0⟩ := trodAll_cons hA
  obtain ⟨v1, vs1, d1, ds1, p1, q1, rfl, rfl, rfl, h1, r1⟩ := trodAll_cons r0
  obtain ⟨v2, vs2, d2, ds2, p2, q2, rfl, rfl, rfl, h2, r2⟩ := trodAll_cons r1
  obtain ⟨rfl, rfl, rfl⟩ := trodAll_nil r2
  obtain rfl : args = #[v0, v1, v2] := by cases args; simp_all
  obtain ⟨rfl, rfl⟩ := trodVars_none hV
  obtain ⟨a0, rfl, rfl, rfl, w0⟩ := open_int Try.underlying3 (hval 0 3 v0 rfl rfl) h0
  obtain ⟨a1, rfl, rfl, rfl, w1⟩ := open_int Try.underlying3 (hval 1 3 v1 rfl rfl) h1
  obtain ⟨a2, rfl, rfl, rfl, w2⟩ := open_int Try.underlying3 (hval 2 3 v2 rfl rfl) h2
  clear hA0 hval0
  simp only [List.append_nil] at hW'
  refine (walk a0 a1 a2 w0 w1 w2 W).mono fun e W' ⟨he, hb⟩ => ?_
  subst he
  exact ⟨_, rfl, _, _, _, [], [], [], hW', trodAll_cons_mk (shut_bool Try.underlying4 _) trodAll_mk0, (trodAll_cons_mk (shut_int Try.underlying3 w0) (trodAll_cons_mk (shut_int Try.underlying3 w1) (trodAll_cons_mk (shut_int Try.underlying3 w2) trodAll_mk0))), rfl, hb.frame _, fun h => by cases h⟩

theorem over : Rows.orderRow.holds Try.pinned (OpenSpec.ofChange Rows.orderSpec) :=
  OpenClaim.holds_of_wide 7 Try.f7 rfl rfl rfl rfl rfl rfl rfl ⟨rfl, rfl, rfl, rfl, rfl⟩ rfl rfl rfl rfl rfl (by kernel_rfl) Try.func7 (by kernel_rfl)
    (of_decide_eq_true (by kernel_rfl)) (by unfold Func.isWrapper; first | (rw [if_pos (by decide +kernel)]; kernel_rfl) | (rw [if_neg (by decide +kernel)]; exact ⟨rfl, rfl⟩))
    (fun os started H enc _ => lifted os started H enc)

end Go.Proofs.Ytfbkjopidjojeaa.order
namespace Go.Proofs.Ytfbkjopidjojeaa
/-- The statement. -/
theorem order_holds : Rows.OrderSaid := order.over
#print axioms order_holds
end Go.Proofs.Ytfbkjopidjojeaa
