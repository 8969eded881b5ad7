/-
  The law Sizes of package streamskeep.
-/
import Derived.Test.YtfbkjopidjojeaaRows
import Derived.Test.YtfbkjopidjojeaaWn
import Derived.WalkKit
import Derived.ProofKit
import Derived.OpenShut
import Derived.ShutString
namespace Go.Proofs.Ytfbkjopidjojeaa.sizes
open Go.ChangeShapes Go.WideShapes Go.ChangeAt Go.RowKit
open Go.ChangeMaps (open_string shut_string)

theorem own : ownKnob Try.prog.godebug = none := by kernel_rfl

theorem e0 : txt (bs []) (bs [false]) = ⟨#[40, 48, 41]⟩ := by decide
theorem text_ne {s t : ByteArray} (h : s ≠ t) : (s.toList == t.toList) = false := by
  rw [beq_eq_false_iff_ne]
  intro e
  rw [ByteArray.toList_eq, ByteArray.toList_eq] at e
  exact h (WideShapes.bytes_inj e)
theorem shift_txt (u v : List Bool) : (⟨#[48]⟩ : ByteArray) ++ txt (bs u) (bs v) = txt (bs (false :: u)) (bs v) := by
  apply WideShapes.bytes_inj
  rw [txt_toList, ByteArray.data_append, Array.toList_append, txt_toList]
  rfl
theorem self_size {f : Nat → Bool} {z k : Int} (h : SizeOf f f z k) : z = 0 ∧ k = 0 := by
  have hd : ∀ n, dif f f n = 0 := fun n => by unfold dif; omega
  rcases h with ⟨rfl, _, _, n, e⟩ | ⟨_, hno, _⟩
  · rw [hd] at e; exact ⟨e.symm, rfl⟩
  · exact absurd ⟨fun n => by rw [hd]; omega, 0, fun n => by rw [hd]; omega⟩ hno
theorem dif_add (f g h : Nat → Bool) (n : Nat) : dif f h n = dif f g n + dif g h n := by unfold dif; omega
theorem adapts_trans {f g h : Nat → Bool} (a : AdaptsS f g) (b : AdaptsS g h) : AdaptsS f h := by
  obtain ⟨a1, A, a2⟩ := a
  obtain ⟨b1, B, b2⟩ := b
  refine ⟨fun n => ?_, A + B, fun n => ?_⟩
  · have := a1 n; have := b1 n; rw [dif_add f g h]; omega
  · have := a2 n; have := b2 n; rw [dif_add f g h]; omega
theorem most_trans {f g h : Nat → Bool} {p q r : Int} (a : AdaptsS f g) (b : AdaptsS g h) (hp : Most f g p) (hq : Most g h q) (hr : Most f h r) : r ≤ p + q ∧ p ≤ r ∧ q ≤ r := by
  obtain ⟨i, e⟩ := hr.2
  obtain ⟨j, e'⟩ := hp.2
  obtain ⟨l, e''⟩ := hq.2
  have h1 := dif_add f g h i
  have h2 := dif_add f g h j
  have h3 := dif_add f g h l
  have := hp.1 i; have := hq.1 i
  have := hr.1 j; have := b.1 j
  have := hr.1 l; have := a.1 l
  omega
theorem most_bd {u v x y : List Bool} {s : Int} (hv0 : v ≠ []) (hy0 : y ≠ []) (hu : u.length ≤ 12) (hv : v.length ≤ 12) (hx : x.length ≤ 12) (hy : y.length ≤ 12) (h : AdaptsS (bitAt u v) (bitAt x y)) (hs : Most (bitAt u v) (bitAt x y) s) : 0 ≤ s ∧ s ≤ 200 := by
  have h1 := most_of hv0 hy0 (Nat.dvd_lcm_left v.length y.length) (Nat.dvd_lcm_right v.length y.length) (Nat.lcm_pos (List.length_pos_iff.2 hv0) (List.length_pos_iff.2 hy0)) h
  have e := hs.unique h1
  obtain ⟨i, hi, e'⟩ := mx_at (bitAt u v) (bitAt x y) (max u.length x.length + Nat.lcm v.length y.length)
  have b := dif_bd (bitAt u v) (bitAt x y) i
  have hl : Nat.lcm v.length y.length ≤ 12 * 12 := Nat.le_trans (lcm_le_mul _ _) (Nat.mul_le_mul hv hy)
  have z := hs.1 0
  rw [dif_zero] at z
  omega
theorem bitAt_shift (u v : List Bool) (n : Nat) : bitAt (false :: u) v (n + 1) = bitAt u v n := by
  unfold bitAt
  by_cases h : n < u.length
  · rw [if_pos (by simp; omega), if_pos h]; simp
  · rw [if_neg (by simp; omega), if_neg h]; simp
theorem bitAt_shift0 (u v : List Bool) : bitAt (false :: u) v 0 = false := by
  unfold bitAt; rw [if_pos (by simp)]; rfl
theorem ones_shift (u v : List Bool) (n : Nat) : ones (bitAt (false :: u) v) (n + 1) = ones (bitAt u v) n := by
  induction n with
  | zero => show ones (bitAt (false :: u) v) 0 + (bitAt (false :: u) v 0).toNat = 0; rw [bitAt_shift0]; rfl
  | succ n ih => rw [ones, ih, bitAt_shift, ones]
theorem dif_shift (u v : List Bool) (n : Nat) : dif (bitAt u v) (bitAt (false :: u) v) (n + 1) = ((bitAt u v n).toNat : Int) := by
  unfold dif; rw [ones_shift, ones]; omega
theorem shift_size {u v : List Bool} {z k : Int} (h : SizeOf (bitAt u v) (bitAt (false :: u) v) z k) : k = 0 ∧ ((∃ n, bitAt u v n = true) → z = 1) ∧ ((∀ n, bitAt u v n = false) → z = 0) := by
  have bd : ∀ n, 0 ≤ dif (bitAt u v) (bitAt (false :: u) v) n ∧ dif (bitAt u v) (bitAt (false :: u) v) n ≤ 1 := by
    intro n
    cases n with
    | zero => rw [dif_zero]; omega
    | succ n => rw [dif_shift]; cases bitAt u v n <;> simp
  rcases h with ⟨rfl, _, h1, n, e⟩ | ⟨_, hno, _⟩
  · refine ⟨rfl, fun ⟨m, hm⟩ => ?_, fun hz => ?_⟩
    · have := h1 (m + 1)
      rw [dif_shift, hm] at this
      have := bd n
      simp at *; omega
    · cases n with
      | zero => rw [dif_zero] at e; exact e.symm
      | succ n => rw [dif_shift, hz] at e; exact e.symm
  · exact absurd ⟨fun n => (bd n).1, 1, fun n => (bd n).2⟩ hno

/-- What lies behind the sizes. -/
theorem tail_facts {u v m1 m2 : List Bool} {z k : Int} (hn : NF (bitAt u v) m1 m2) (h : SizeOf (bitAt u v) (bitAt (false :: u) v) z k) :
    k = 0 ∧ ((z = 0 ∧ txt (bs m1) (bs m2) = ⟨#[40, 48, 41]⟩) ∨ (z = 1 ∧ ((txt (bs m1) (bs m2)).toList == [40, 48, 41]) = false)) := by
  obtain ⟨hk, h1, h0⟩ := shift_size h
  refine ⟨hk, ?_⟩
  by_cases hz : ∀ n, bitAt u v n = false
  · left
    refine ⟨h0 hz, ?_⟩
    have : NF (fun _ => false) m1 m2 := hn.congr hz
    obtain ⟨rfl, rfl⟩ := NF_zeros.unique this
    exact e0
  · right
    have hex : ∃ n, bitAt u v n = true := by
      rcases Classical.em (∃ n, bitAt u v n = true) with g | g
      · exact g
      · exfalso; apply hz; intro n
        cases e : bitAt u v n
        · rfl
        · exact absurd ⟨n, e⟩ g
    have hl : (⟨#[40, 48, 41]⟩ : ByteArray).toList = [40, 48, 41] := by rw [ByteArray.toList_eq]
    refine ⟨h1 hex, ?_⟩
    rw [← hl]
    refine text_ne fun e => ?_
    rw [← e0] at e
    obtain ⟨rfl, rfl⟩ := txt_inj e
    obtain ⟨n, e'⟩ := hex
    rw [← hn.bits, NF_zeros.bits] at e'
    cases e'

set_option maxRecDepth 50000 in
set_option maxHeartbeats 2000000 in
theorem walk (a0 a1 a2 : Int) (w0 : (Lit.int .i64 a0).wf = true) (w1 : (Lit.int .i64 a1).wf = true) (w2 : (Lit.int .i64 a2).wf = true) (w : World) :
    Calls Try.prog 8 #[.int .i64 a0, .int .i64 a1, .int .i64 a2] w fun e w' => e = .returned (.bool true) ∧ Below w.heap.size w w' := by
  go_enter Try.func8, Try.ntmps8
  go_wp2_with fail
  refine (word_any a0 5 w w0 (by omega) (by omega)).mono ?_
  rintro e v1 ⟨⟨u, v, rfl, hu, hv, hv0⟩, hb1⟩
  go_wp2_with fail
  refine (word_any a1 5 v1 w1 (by omega) (by omega)).mono ?_
  rintro e v2 ⟨⟨x, y, rfl, hx, hy, hy0⟩, hb2⟩
  go_wp2_with fail
  refine (word_any a2 5 v2 w2 (by omega) (by omega)).mono ?_
  rintro e v3 ⟨⟨p, q, rfl, hp, hq, hq0⟩, hb3⟩
  have hb := below_two (below_two hb1 hb2) hb3
  clear hb1 hb2 hb3
  go_wp2_with fail
  refine (size_word v3 (by omega) (by omega) hv0 (by omega) (by omega) hv0).mono ?_
  rintro e v4 ⟨⟨z1, k1, rfl, hz1⟩, hb4⟩
  have hb := below_two hb hb4
  obtain ⟨rfl, rfl⟩ := self_size hz1.out
  clear hb4 hz1
  go_wp2_with fail
  refine (size_word v4 (by omega) (by omega) hv0 (by omega) (by omega) hy0).mono ?_
  rintro e v5 ⟨⟨z2, k2, rfl, hz2⟩, hb5⟩
  have hb := below_two hb hb5
  clear hb5
  go_wp2_with fail
  refine (size_word v5 (by omega) (by omega) hy0 (by omega) (by omega) hq0).mono ?_
  rintro e v6 ⟨⟨z3, k3, rfl, hz3⟩, hb6⟩
  have hb := below_two hb hb6
  clear hb6
  go_wp2_with fail
  refine (size_word v6 (by omega) (by omega) hv0 (by omega) (by omega) hq0).mono ?_
  rintro e v7 ⟨⟨z4, k4, rfl, hz4⟩, hb7⟩
  have hb := below_two hb hb7
  clear hb7
  have hs1 := txt_size u v
  have hgo : (k2 = 0 ∧ k3 = 0 ∧ k4 = 0 ∧ 0 ≤ z2 ∧ z2 ≤ 200 ∧ 0 ≤ z3 ∧ z3 ≤ 200 ∧ z4 ≤ z2 + z3 ∧ z2 ≤ z4 ∧ z3 ≤ z4) ∨ (k2 = 0 ∧ k3 = 3) ∨ k2 = 3 := by
    rcases hz2.out with ⟨r2, ad2, m2⟩ | ⟨r2, _, _⟩
    · rcases hz3.out with ⟨r3, ad3, m3⟩ | ⟨r3, _, _⟩
      · rcases hz4.out with ⟨r4, ad4, m4⟩ | ⟨r4, no4, _⟩
        · left
          have b2 := most_bd hv0 hy0 (by omega) (by omega) (by omega) (by omega) ad2 m2
          have b3 := most_bd hy0 hq0 (by omega) (by omega) (by omega) (by omega) ad3 m3
          have t := most_trans ad2 ad3 m2 m3 m4
          exact ⟨r2, r3, r4, b2.1, b2.2, b3.1, b3.2, t.1, t.2.1, t.2.2⟩
        · exact absurd (adapts_trans ad2 ad3) no4
      · exact .inr (.inl ⟨r2, r3⟩)
    · exact .inr (.inr r2)
  clear hz2 hz3 hz4
  rcases hgo with ⟨rfl, rfl, rfl, g1, g2, g3, g4, g5, g6, g7⟩ | ⟨rfl, rfl⟩ | rfl
  all_goals
    go_wp2_with fail
    have k := size_word (u := u) (v := v) (x := false :: u) (y := v) v7 (by omega) (by omega) hv0 (by simp; omega) (by omega) hv0
    rw [← shift_txt] at k
    refine k.mono ?_
    rintro e v8 ⟨⟨z5, k5, rfl, hz5⟩, hb8⟩
    have hb := below_two hb hb8
    clear hb8 k
    go_wp2_with fail
    refine (normal_word v8 (by omega) (by omega) hv0).mono ?_
    rintro e v9 ⟨⟨m1, m2, rfl, hm, _, _⟩, hb9⟩
    have hb := below_two hb hb9
    clear hb9
    obtain ⟨rfl, ht | ht⟩ := tail_facts hm hz5.out
    all_goals
      obtain ⟨rfl, ht⟩ := ht
      clear hz5 hm
      first | rw [ht] | skip
      go_wp2
      go_ret
      exact ⟨rfl, hb⟩

set_option maxRecDepth 100000 in
theorem lifted (os : Os) (started : os.Started) (H : Type) (enc : TypeId × Value → H) :
    ReturnsInHanded {} Try.checked os 8 .any (Rows.sizesSpec.pre6 enc Try.prog Try.f8 Rows.sizesRow.domain false) (Rows.sizesSpec.post enc Try.prog Try.f8 false true false false) := by
  refine returnsInHanded_of_change (C := Try.checked) own started (by kernel_rfl) Try.func8
    (ChangeSpec.witness6 (enc := enc) (C := Try.checked) false ⟨#[], #[.int .i64 0, .int .i64 0, .int .i64 0], []⟩ 8 (by kernel_rfl) (by kernel_rfl) (by kernel_rfl) (by kernel_rfl)) ?_
  intro W base args ds gs before hval0 hW hcnd _
  have hval : ∀ (j : Nat) t v, Try.f8.params[j]? = some t → args[j]? = some v → Value.okWide Try.prog W .any base t v := hval0
  have hW' := hW
  obtain ⟨p, q, hA0, hV, rfl, hfz, hnd⟩ := hW
  have hA : DataW.TrodAll enc Try.prog W 0 (fun _ => true) true Try.f8.params.toList args.toList ds p := hA0
  rw [Try.params8] at hA hval
  obtain ⟨v0, vs0, d0, ds0, p0, q0, hargs, rfl, rfl, h0, r0⟩ := trodAll_cons hA
  obtain ⟨v1, vs1, d1, ds1, p1, q1, rfl, rfl, rfl, h1, r1⟩ := trodAll_cons r0
  obtain ⟨v2, vs2, d2, ds2, p2, q2, rfl, rfl, rfl, h2, r2⟩ := trodAll_cons r1
  obtain ⟨rfl, rfl, rfl⟩ := trodAll_nil r2
  obtain rfl : args = #[v0, v1, v2] := by cases args; simp_all
  obtain ⟨rfl, rfl⟩ := trodVars_none hV
  obtain ⟨a0, rfl, rfl, rfl, w0⟩ := open_int Try.underlying3 (hval 0 3 v0 rfl rfl) h0
  obtain ⟨a1, rfl, rfl, rfl, w1⟩ := open_int Try.underlying3 (hval 1 3 v1 rfl rfl) h1
  obtain ⟨a2, rfl, rfl, rfl, w2⟩ := open_int Try.underlying3 (hval 2 3 v2 rfl rfl) h2
  clear hA0 hval0
  simp only [List.append_nil] at hW'
  refine (walk a0 a1 a2 w0 w1 w2 W).mono fun e W' ⟨he, hb⟩ => ?_
  subst he
  exact ⟨_, rfl, _, _, _, [], [], [], hW', trodAll_cons_mk (shut_bool Try.underlying4 _) trodAll_mk0, (trodAll_cons_mk (shut_int Try.underlying3 w0) (trodAll_cons_mk (shut_int Try.underlying3 w1) (trodAll_cons_mk (shut_int Try.underlying3 w2) trodAll_mk0))), rfl, hb.frame _, fun h => by cases h⟩

theorem over : Rows.sizesRow.holds Try.pinned (OpenSpec.ofChange Rows.sizesSpec) :=
  OpenClaim.holds_of_wide 8 Try.f8 rfl rfl rfl rfl rfl rfl rfl ⟨rfl, rfl, rfl, rfl, rfl⟩ rfl rfl rfl rfl rfl (by kernel_rfl) Try.func8 (by kernel_rfl)
    (of_decide_eq_true (by kernel_rfl)) (by unfold Func.isWrapper; first | (rw [if_pos (by decide +kernel)]; kernel_rfl) | (rw [if_neg (by decide +kernel)]; exact ⟨rfl, rfl⟩))
    (fun os started H enc _ => lifted os started H enc)

end Go.Proofs.Ytfbkjopidjojeaa.sizes
namespace Go.Proofs.Ytfbkjopidjojeaa
/-- The statement. -/
theorem sizes_holds : Rows.SizesSaid := sizes.over
#print axioms sizes_holds
end Go.Proofs.Ytfbkjopidjojeaa
