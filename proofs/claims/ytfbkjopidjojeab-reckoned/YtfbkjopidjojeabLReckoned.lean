/-
  Joined: Reckoned.
-/
import Derived.Test.YtfbkjopidjojeabRows
import Derived.Test.YtfbkjopidjojeabP9
import Derived.WalkKit
import Derived.ProofKit
import Derived.OpenShut
import Derived.ShutString
namespace Go.Proofs.Ytfbkjopidjojeab.reckoned
open Go.ChangeShapes Go.WideShapes Go.ChangeAt Go.RowKit
open Go.ChangeMaps (open_string shut_string)

theorem own : ownKnob Try.prog.godebug = none := by kernel_rfl

theorem i64_of {a : Int} (h : (Lit.int .i64 a).wf = true) : I64 a := by
  simp only [Lit.wf, Bool.and_eq_true, decide_eq_true_eq] at h
  have e1 : IntKind.i64.min = -9223372036854775808 := by decide
  have e2 : IntKind.i64.max = 9223372036854775807 := by decide
  rw [e1, e2] at h
  unfold I64
  omega
theorem cell_lt {w : World} {b j : Nat} {v : Value} (h : w.cell? ⟨b, j, none⟩ = some v) : b < w.heap.size := by
  rcases Nat.lt_or_ge b w.heap.size with q | q
  · exact q
  · exfalso
    simp [World.cell?, Array.getElem?_eq_none q] at h
/-- The world ahead of the run. -/
def W1 (w : World) (a b : Int) : World := (((w.alloc (Obj.cells #[.int .i64 0, .int .i64 0] 30)).alloc (Obj.cells #[.int .i64 a] 3)).alloc (Obj.cells #[.int .i64 b] 3)).alloc (Obj.cells #[.slice (some ⟨w.heap.size + 1, 0, none⟩) 1 1, .slice (some ⟨w.heap.size + 1 + 1, 0, none⟩) 1 1] 38)
theorem W1_size (w : World) (a b : Int) : (W1 w a b).heap.size = w.heap.size + 1 + 1 + 1 + 1 := by simp [W1]
theorem W1_below (w : World) (a b : Int) : Below w.heap.size w (W1 w a b) := ((((Below.refl w.heap.size w).alloc (Nat.le_refl _) _).alloc (by simp) _).alloc (by simp; omega) _).alloc (by simp; omega) _
theorem one_reads {w : World} {c : Nat} {z : Int} (h : w.cell? ⟨c, 0, none⟩ = some (.int .i64 z)) (hc : c < w.heap.size) : Reads w (.slice (some ⟨c, 0, none⟩) 1 1) 1 1 (zs [z]) :=
  ⟨rfl, _, _, rfl, Nat.le_refl _, .inr ⟨c, 0, rfl, hc, fun i hi => by
    have : i = 0 := by simp [zs] at hi; omega
    subst this; exact h⟩⟩
theorem W1_h3 (w : World) (a b : Int) : (W1 w a b).heap[w.heap.size + 1 + 1 + 1]? = some (.cells [Value.slice (some ⟨w.heap.size + 1, 0, none⟩) 1 1, .slice (some ⟨w.heap.size + 1 + 1, 0, none⟩) 1 1].toArray 38 (0, 0)) := by
  unfold W1
  have h := heap_alloc_new (((w.alloc (Obj.cells #[.int .i64 0, .int .i64 0] 30)).alloc (Obj.cells #[.int .i64 a] 3)).alloc (Obj.cells #[.int .i64 b] 3)) (Obj.cells #[.slice (some ⟨w.heap.size + 1, 0, none⟩) 1 1, .slice (some ⟨w.heap.size + 1 + 1, 0, none⟩) 1 1] 38)
  simp only [World.size_alloc] at h
  exact h
theorem W1_h2 (w : World) (a b : Int) : (W1 w a b).heap[w.heap.size + 1 + 1]? = some (.cells [Value.int .i64 b].toArray 3 (0, 0)) := by
  unfold W1
  rw [Below.heap_alloc _ _ _ (by simp)]
  have h := heap_alloc_new ((w.alloc (Obj.cells #[.int .i64 0, .int .i64 0] 30)).alloc (Obj.cells #[.int .i64 a] 3)) (Obj.cells #[.int .i64 b] 3)
  simp only [World.size_alloc] at h
  exact h
theorem W1_h1 (w : World) (a b : Int) : (W1 w a b).heap[w.heap.size + 1]? = some (.cells [Value.int .i64 a].toArray 3 (0, 0)) := by
  unfold W1
  rw [Below.heap_alloc _ _ _ (by simp), Below.heap_alloc _ _ _ (by simp)]
  have h := heap_alloc_new (w.alloc (Obj.cells #[.int .i64 0, .int .i64 0] 30)) (Obj.cells #[.int .i64 a] 3)
  simp only [World.size_alloc] at h
  exact h
theorem W1_ll (w : World) (a b : Int) : LL (W1 w a b) (.slice (some ⟨w.heap.size + 1 + 1 + 1, 0, none⟩) 2 2) [[a], [b]] := by
  refine ⟨[.slice (some ⟨w.heap.size + 1, 0, none⟩) 1 1, .slice (some ⟨w.heap.size + 1 + 1, 0, none⟩) 1 1], rfl, ⟨rfl, _, _, rfl, Nat.le_refl _, .inr ⟨_, 0, rfl, by rw [W1_size]; omega, fun i hi => ?_⟩⟩, fun i hi hi' => ?_⟩
  · rw [Nat.zero_add, cell_of_row _ _ i _ _ _ (W1_h3 w a b)]; simp
  · have hi2 : i < 2 := hi
    have : i = 0 ∨ i = 1 := by omega
    rcases this with rfl | rfl
    · exact one_reads (by rw [cell_of_row _ _ 0 _ _ _ (W1_h1 w a b)]; rfl) (by rw [W1_size]; omega)
    · exact one_reads (by rw [cell_of_row _ _ 0 _ _ _ (W1_h2 w a b)]; rfl) (by rw [W1_size]; omega)
theorem getD_cell {w : World} {B g n cap : Nat} {V : List Int} (h : w.ownsRow B 3 1 (.slice (some ⟨g, 0, none⟩) n cap) n (zs V)) (j : Nat) (hj : j < V.length) : w.cell? ⟨g, j, none⟩ = some (.int .i64 (V.getD j 0)) := by
  have hl := h.1
  rw [zs_length] at hl
  rw [h.cellAt j (by omega), zs_get hj]
  simp [hj]

set_option maxRecDepth 100000 in
set_option maxRecDepth 50000 in
set_option maxHeartbeats 4000000 in
theorem walk (a0 a1 : Int) (w0 : (Lit.int .i64 a0).wf = true) (w1 : (Lit.int .i64 a1).wf = true) (w : World) :
    Calls Try.prog 9 #[.int .i64 a0, .int .i64 a1] w fun e w' => e = .returned (.bool true) ∧ Below w.heap.size w w' := by
  obtain ⟨j0, hjI, hyI0, hyI1, hyI2⟩ := info_parts Try.info3
  have hV := rec_v (i64_of w0) (i64_of w1)
  have HI1 : Hid (I64 a1) := i64_of w1
  have hcomp := Compile_any recB w (by decide)
  rw [rec_comp] at hcomp
  clear w0 w1
  go_enter Try.func9, Try.ntmps9
  go_wp2_with fail
  refine hcomp.mono ?_
  rintro e w1 ⟨hC, hb1⟩
  rcases hC with ⟨f, hf, _⟩ | ⟨qs, v, b, hqs, rfl, hBb, hcell, hsteps⟩
  · cases hf
  · obtain ⟨p, cap, rfl, hcap, hrs⟩ := hsteps.rs
    have hq : qs.map Prod.fst = recS := by injection hqs with hqs; exact hqs.symm
    have hql : qs.length ≤ 24 := by
      have := congrArg List.length hq
      rw [List.length_map] at this
      rw [this]; decide
    have hbb := cell_lt hcell
    have hbw := W1_below w1 a0 a1
    have hws := W1_size w1 a0 a1
    have hrun := pRun_nil qs recS b p (some ⟨w1.heap.size + 1 + 1 + 1, 0, none⟩) cap 2 1 [[a0], [a1]] (W1 w1 a0 a1) hql (by rw [hbw.cell (p := ⟨b, 0, none⟩) hbb]; exact hcell) (by rw [hws]; omega) (hrs.below hbw (Nat.le_refl _)) (W1_ll w1 a0 a1) hq (comp_good rec_comp) (comp_nock rec_comp) (by decide) (by show 2 = cntL recS 1; decide)
    clear hqs hcomp hsteps hrs hq hcell
    go_wp2_with fail
    refine hrun.mono ?_
    rintro e w2 ⟨⟨X, hO, ov, mv, vs, B, en, tk, us, hB0, hr2, rfl, hTL⟩, hb2⟩
    obtain ⟨us', h1, h2⟩ := rec_run hO a0 a1
    rw [h1] at hr2
    injection hr2 with e1 e2
    injection e2 with e2 e3
    subst e1; subst e2; subst e3
    rw [h2, recO_map] at hTL
    obtain ⟨V, hVe⟩ : ∃ V, recU a0 a1 = V := ⟨_, rfl⟩
    rw [hVe] at hTL hV
    have hVl := hV.len
    obtain ⟨hLL, hMr⟩ := hTL.ll
    obtain ⟨op, on, oc, hoe⟩ := own_isSlice hTL.outs
    subst hoe
    obtain ⟨mp, mn, mc, hme⟩ := own_isSlice hTL.most
    subst hme
    have hB2 : Below w.heap.size w w2 := hb1.trans ((hbw.trans (hb2.mono hbw.size)).mono hb1.size)
    have hB2s := hB2.size
    obtain ⟨vs', hvl, hvo, hvi⟩ := hLL
    rw [List.length_map, hVl] at hvl
    have hon : on = 8 := by
      obtain ⟨_, q, c', he, _, _⟩ := hvo
      injection he with _ he _
      rw [he, List.length_map, hVl]
    subst hon
    obtain ⟨ob, oo, rfl, hob, hoc⟩ := hvo.cell (by rw [List.length_map, hVl]; omega)
    rw [List.length_map, hVl] at hoc
    have HOC : Hid (∀ i, i < 8 → w2.cell? ⟨ob, oo + i, none⟩ = vs'[i]?) := hoc
    have HVI : Hid (∀ (i : Nat) (h : i < 8), ∃ vb vo vc, vs'[i]? = some (.slice (some ⟨vb, vo, none⟩) 1 vc) ∧ vb < w2.heap.size ∧ w2.cell? ⟨vb, vo, none⟩ = some (.int .i64 (V.getD i 0))) := by
      show ∀ (i : Nat) (h : i < 8), _
      intro i hi
      have hiv : i < vs'.length := by omega
      have hiV : i < V.length := by omega
      have hr := hvi i hiv (by rw [List.length_map]; exact hiV)
      simp only [List.getElem_map] at hr
      obtain ⟨vp, vc, hve, _⟩ := hr.form
      rw [hve] at hr
      obtain ⟨vb, vo, rfl, hvb, hvc⟩ := hr.cell (by simp)
      refine ⟨vb, vo, vc, by rw [List.getElem?_eq_getElem hiv, hve]; rfl, hvb, ?_⟩
      have := hvc 0 (by simp)
      rw [Nat.add_zero] at this
      rw [this]
      simp [zs, hiV]
    have HV : Hid (RecV a0 a1 V) := hV
    clear hVe hTL h1 h2 hO hMr hrun hvo hvi hoc hb2 hbw hws hV hbb
    go_wp2
    obtain ⟨W3, hW3⟩ : ∃ W3, W3 = w2.alloc (Obj.cells #[.int .i64 1, .int .i64 1, .slice (some ⟨ob, oo, none⟩) 8 oc, .slice mp mn mc] 40) := ⟨_, rfl⟩
    have hb3 : Below w2.heap.size w2 W3 := by rw [hW3]; exact (Below.refl _ _).alloc (Nat.le_refl _) _
    have hs3 : W3.heap.size = w2.heap.size + 1 := by rw [hW3]; simp
    have hc3 : W3.cell? ⟨w2.heap.size, 2, none⟩ = some (.slice (some ⟨ob, oo, none⟩) 8 oc) := by rw [hW3, cell_of_row _ _ 2 _ _ _ (heap_alloc_new w2 _)]; rfl
    rw [← hW3]
    clear hW3
    go_loopw [9, 10] (fun r i wr => ∃ k : Nat, i = .int .i64 k ∧ k ≤ 8 ∧ wr.ownsRow W3.heap.size 3 1 r k (zs (V.take k)) ∧ Below W3.heap.size W3 wr) (fun _ i _ => 8 - (intOf i).toNat)
    case atStart => exact ⟨0, rfl, Nat.zero_le _, World.ownsRow_nil _ _ _ _, Below.refl _ _⟩
    case round =>
      obtain ⟨k, rfl, hk, hown, hnx⟩ := hrel
      have hsz := hnx.size
      have hbr : Below w2.heap.size w2 wr := hb3.trans (hnx.mono (by omega))
      have d2 : wr.cell? ⟨w2.heap.size, 2, none⟩ = some (.slice (some ⟨ob, oo, none⟩) 8 oc) := by rw [hnx.cell (p := ⟨w2.heap.size, 2, none⟩) (by show w2.heap.size < _; omega)]; exact hc3
      by_cases hlt : k < 8
      · obtain ⟨vb, vo, vc, hv1, hv2, hv3⟩ := HVI.out k hlt
        have o1 : wr.cell? ⟨ob, oo + k, none⟩ = some (.slice (some ⟨vb, vo, none⟩) 1 vc) := by rw [hbr.cell (p := ⟨ob, oo + k, none⟩) hob, HOC.out k hlt]; exact hv1
        have o2 : wr.cell? ⟨vb, vo, none⟩ = some (.int .i64 (V.getD k 0)) := by rw [hbr.cell (p := ⟨vb, vo, none⟩) hv2]; exact hv3
        have hobz : ob < wr.heap.size := by omega
        have hvbz : vb < wr.heap.size := by omega
        have hwz : w2.heap.size < wr.heap.size := by omega
        obtain ⟨z, hz⟩ : ∃ z, V.getD k 0 = z := ⟨_, rfl⟩
        have HT : Hid (zs (V.take (k + 1)) = zs (V.take k) ++ [.int .i64 z]) := by
          show _ = _
          rw [take_one (by omega), zs_snoc]
          rw [← hz]; simp [show k < V.length by omega]
        rw [hz] at o2
        clear hv1 hv2 hv3 hz
        go_wp2_with (at_builtin; refine wpList_append_own _ rfl _ _ 38 rfl W3.heap.size 3 j0 (.int .i64 0) 1 8 Try.under38 hjI hyI0 hyI1 hyI2 rfl (by decide) _ _ _ rfl (hown.alloc _) ⟨wr.heap.size, 0, none⟩ 1 1 [.int .i64 z] rfl rfl (cell_one_new _ _ _) (by intro x hx; simp at hx; subst hx; rfl) (by unfold maxLen; omega) (by omega) (by simp; omega) ?_; intro v' w' hown' hgrow _)
        have hb' : Below W3.heap.size W3 w' := (hnx.alloc hsz _).grown hgrow (by simp; omega) (fun j hj => (hown.lt j hj).1)
        have hw2 : w'.ownsRow W3.heap.size 3 1 v' (k + 1) (zs (V.take (k + 1))) := by rw [HT.out]; exact hown'
        clear hown' hgrow hown hnx
        go_wp2
        go_roundw
        case rel => exact ⟨k + 1, by go_num, by omega, hw2, hb'⟩
        case measure => simp [intOf]; omega
      · have hk8 : k = 8 := by omega
        subst hk8
        rw [List.take_of_length_le (by omega)] at hown
        obtain ⟨g, gc, hge⟩ := own_form hown (by omega)
        subst hge
        have hgz := (hown.lt g rfl).2
        have hBf : Below w.heap.size w wr := hB2.trans (hbr.mono hB2s)
        have hv := HV.out
        have x0 := getD_cell hown 0 (by omega)
        have x1 := getD_cell hown 1 (by omega)
        have x2 := getD_cell hown 2 (by omega)
        have x3 := getD_cell hown 3 (by omega)
        have x4 := getD_cell hown 4 (by omega)
        have x5 := getD_cell hown 5 (by omega)
        have x6 := getD_cell hown 6 (by omega)
        have x7 := getD_cell hown 7 (by omega)
        have r0 := hv.r0
        have r1 := hv.r1
        have r3 := hv.r3
        have r4 := hv.r4
        have r5 := hv.r5
        have z2 := hv.z2
        have z6 := hv.z6
        have q2 := hv.q2
        have q6 := hv.q6
        rw [hv.r7] at x7
        generalize V.getD 0 0 = v0 at *
        generalize V.getD 1 0 = v1 at *
        generalize V.getD 2 0 = v2 at *
        generalize V.getD 3 0 = v3 at *
        generalize V.getD 4 0 = v4 at *
        generalize V.getD 5 0 = v5 at *
        generalize V.getD 6 0 = v6 at *
        have s0 : (wrap64 (v0 - a1) != a0) = false := by rw [r0]; simp
        have s1 : (wrap64 (v1 + a1) != a0) = false := by rw [r1]; simp
        clear hown hv hnx d2 hbr hc3 HV HVI HOC r0 r1
        have hcase : (a0 < a1 ∧ ¬ a1 < a0 ∧ v3 = 1 ∧ v4 = 0 ∧ v5 = a1) ∨ (¬ a0 < a1 ∧ a1 < a0 ∧ v3 = 0 ∧ v4 = 1 ∧ v5 = a0) ∨ (¬ a0 < a1 ∧ ¬ a1 < a0 ∧ v3 = 0 ∧ v4 = 0 ∧ v5 = a0) := by
          rcases Int.lt_trichotomy a0 a1 with h | h | h
          · left
            rw [if_pos h] at r3 r5
            rw [if_neg (by omega)] at r4
            exact ⟨h, by omega, r3, r4, r5⟩
          · right; right
            rw [if_neg (by omega)] at r3 r4 r5
            exact ⟨by omega, by omega, r3, r4, r5⟩
          · right; left
            rw [if_neg (by omega)] at r3 r5
            rw [if_pos h] at r4
            exact ⟨by omega, h, r3, r4, r5⟩
        clear r3 r4 r5
        by_cases hb0 : a1 = 0
        · have y2 := z2 hb0
          have y6 := z6 hb0
          rw [y2] at x2
          rw [y6] at x6
          have t0 : (a1 == 0) = true := by simp [hb0]
          clear z2 z6 q2 q6 y2 y6 hb0
          rcases hcase with ⟨h1, h2, h3, h4, h5⟩ | ⟨h1, h2, h3, h4, h5⟩ | ⟨h1, h2, h3, h4, h5⟩
          all_goals
            rw [h3] at x3
            rw [h4] at x4
            rw [h5] at x5
            clear h3 h4 h5
            go_wp2
            go_ret
            exact ⟨rfl, hBf⟩
        · have y2 := q2 hb0
          obtain ⟨y6, yb⟩ := q6 hb0
          clear z2 z6 q2 q6
          have t0 : (a1 == 0) = false := by simp [hb0]
          have s2 : (wrap64 (wrap64 (v2 * a1) + v6) == a0) = true := by rw [y2]; simp
          have hsm := fun w5 => smaller_any v6 a1 w5 HI1.out yb
          have hy : v6 = 0 ∨ (v6 ≠ 0 ∧ (decide (v6 < 0) == decide (a0 < 0)) = true) := by
            rcases Decidable.em (v6 = 0) with h | h
            · exact .inl h
            · right
              refine ⟨h, ?_⟩
              rcases y6 with q | q
              · exact absurd q h
              · rw [beq_iff_eq]; simp [q]
          clear y2 y6 yb
          rcases hy with h6 | ⟨h6, h7⟩
          · have t6 : (v6 == 0) = true := by simp [h6]
            clear h6
            rcases hcase with ⟨h1, h2, h3, h4, h5⟩ | ⟨h1, h2, h3, h4, h5⟩ | ⟨h1, h2, h3, h4, h5⟩
            all_goals
              rw [h3] at x3
              rw [h4] at x4
              rw [h5] at x5
              clear h3 h4 h5
              go_wp2_with (go_at_call 29; refine (hsm _).mono ?_; rintro e w5 ⟨rfl, hw5⟩; subst w5)
              go_ret
              exact ⟨rfl, hBf⟩
          · have t6 : (v6 == 0) = false := by simp [h6]
            clear h6
            rcases hcase with ⟨h1, h2, h3, h4, h5⟩ | ⟨h1, h2, h3, h4, h5⟩ | ⟨h1, h2, h3, h4, h5⟩
            all_goals
              rw [h3] at x3
              rw [h4] at x4
              rw [h5] at x5
              clear h3 h4 h5
              go_wp2_with (go_at_call 29; refine (hsm _).mono ?_; rintro e w5 ⟨rfl, hw5⟩; subst w5)
              go_ret
              exact ⟨rfl, hBf⟩

set_option maxRecDepth 100000 in
theorem lifted (os : Os) (started : os.Started) (H : Type) (enc : TypeId × Value → H) :
    ReturnsInHanded {} Try.checked os 9 .any (Rows.reckonedSpec.pre6 enc Try.prog Try.f9 Rows.reckonedRow.domain false) (Rows.reckonedSpec.post enc Try.prog Try.f9 false true false false) := by
  refine returnsInHanded_of_change (C := Try.checked) own started (by kernel_rfl) Try.func9
    (ChangeSpec.witness6 (enc := enc) (C := Try.checked) false ⟨#[], #[.int .i64 0, .int .i64 0], []⟩ 8 (by kernel_rfl) (by kernel_rfl) (by kernel_rfl) (by kernel_rfl)) ?_
  intro W base args ds gs before hval0 hW hcnd _
  have hval : ∀ (j : Nat) t v, Try.f9.params[j]? = some t → args[j]? = some v → Value.okWide Try.prog W .any base t v := hval0
  have hW' := hW
  obtain ⟨p, q, hA0, hV, rfl, hfz, hnd⟩ := hW
  have hA : DataW.TrodAll enc Try.prog W 0 (fun _ => true) true Try.f9.params.toList args.toList ds p := hA0
  rw [Try.params9] at hA hval
  obtain ⟨v0, vs0, d0, ds0, p0, q0, hargs, rfl, rfl, h0, r0⟩ := trodAll_cons hA
  obtain ⟨v1, vs1, d1, ds1, p1, q1, rfl, rfl, rfl, h1, r1⟩ := trodAll_cons r0
  obtain ⟨rfl, rfl, rfl⟩ := trodAll_nil r1
  obtain rfl : args = #[v0, v1] := by cases args; simp_all
  obtain ⟨rfl, rfl⟩ := trodVars_none hV
  obtain ⟨a0, rfl, rfl, rfl, w0⟩ := open_int Try.underlying3 (hval 0 3 v0 rfl rfl) h0
  obtain ⟨a1, rfl, rfl, rfl, w1⟩ := open_int Try.underlying3 (hval 1 3 v1 rfl rfl) h1
  clear hA0 hval0
  simp only [List.append_nil] at hW'
  refine (walk a0 a1 w0 w1 W).mono fun e W' ⟨he, hb⟩ => ?_
  subst he
  exact ⟨_, rfl, _, _, _, [], [], [], hW', trodAll_cons_mk (shut_bool Try.underlying4 _) trodAll_mk0, (trodAll_cons_mk (shut_int Try.underlying3 w0) (trodAll_cons_mk (shut_int Try.underlying3 w1) trodAll_mk0)), rfl, hb.frame _, fun h => by cases h⟩

theorem over : Rows.reckonedRow.holds Try.pinned (OpenSpec.ofChange Rows.reckonedSpec) :=
  OpenClaim.holds_of_wide 9 Try.f9 rfl rfl rfl rfl rfl rfl rfl ⟨rfl, rfl, rfl, rfl, rfl⟩ rfl rfl rfl rfl rfl (by kernel_rfl) Try.func9 (by kernel_rfl)
    (of_decide_eq_true (by kernel_rfl)) (by unfold Func.isWrapper; first | (rw [if_pos (by decide +kernel)]; kernel_rfl) | (rw [if_neg (by decide +kernel)]; exact ⟨rfl, rfl⟩))
    (fun os started H enc _ => lifted os started H enc)

end Go.Proofs.Ytfbkjopidjojeab.reckoned
namespace Go.Proofs.Ytfbkjopidjojeab
/-- The statement. -/
theorem reckoned_holds : Rows.ReckonedSaid := reckoned.over
#print axioms reckoned_holds
end Go.Proofs.Ytfbkjopidjojeab

