/-
  Joined: Apart.
-/
import Derived.Test.YtfbkjopidjojeabRows
import Derived.Test.YtfbkjopidjojeabPL
import Derived.WalkKit
import Derived.ProofKit
import Derived.OpenShut
import Derived.ShutString
namespace Go.Proofs.Ytfbkjopidjojeab.apart
open Go.ChangeShapes Go.WideShapes Go.ChangeAt Go.RowKit
open Go.ChangeMaps (open_string shut_string)

theorem own : ownKnob Try.prog.godebug = none := by kernel_rfl

/-- The text as it is put together. -/
def apB (W T M : ByteArray) (E : List UInt8) : ByteArray := (((((({ data := #[105, 110, 32, 120, 32, 40, 49, 41, 10, 97, 32, 61, 32, 119, 104, 101, 110, 32, 120, 32] } : ByteArray) ++ W) ++ { data := #[10, 110, 32, 61, 32, 119, 104, 101, 110, 32, 120, 32] }) ++ T) ++ { data := #[10, 121, 32, 61, 32, 109, 101, 114, 103, 101, 32] }) ++ M) ++ { data := E.toArray }
theorem apB_list (W T M : ByteArray) (E : List UInt8) : (apB W T M E).data.toList = apL W.data.toList T.data.toList M.data.toList E := by
  unfold apB apL
  simp
theorem apB_size {W T M : ByteArray} {E : List UInt8} (hW : W.size ≤ 26) (hT : T.size ≤ 26) (hM : M.size ≤ 26) (hE : E.length = 10) : (apB W T M E).size ≤ maxLen := by
  have h := congrArg List.length (apB_list W T M E)
  have e : ∀ X : ByteArray, X.data.toList.length = X.size := fun X => by simp
  rw [e] at h
  rw [h]
  unfold apL
  simp only [List.length_append, List.length_cons, List.length_nil, e, hE]
  unfold maxLen
  omega

set_option maxRecDepth 100000 in
set_option maxRecDepth 50000 in
set_option maxHeartbeats 4000000 in
theorem walk (a0 a1 : Int) (w0 : (Lit.int .i64 a0).wf = true) (_w1 : (Lit.int .i64 a1).wf = true) (w : World) :
    Calls Try.prog 7 #[.int .i64 a0, .int .i64 a1] w fun e w' => e = .returned (.bool true) ∧ Below w.heap.size w w' := by
  have hword := word_any a0 12 w w0 (by decide) (by decide)
  clear w0
  go_enter Try.func7, Try.ntmps7
  go_wp2_with fail
  refine hword.mono ?_
  rintro e w1 ⟨⟨u, v, rfl, hu, hv, hv0⟩, hb1⟩
  obtain ⟨W, hW⟩ : ∃ W, txt (bs u) (bs v) = W := ⟨_, rfl⟩
  have hWl : W.data.toList = txtL u v := by rw [← hW]; exact txt_list u v
  have hWs : W.size = u.length + v.length + 2 := by rw [← hW]; exact (txt_ok u v).size
  have hWs26 : W.size ≤ 26 := by omega
  have hWs0 : 0 < W.size := by omega
  rw [hW]
  obtain ⟨T, hT⟩ : ∃ T, S (W.data.toList.map tb) = T := ⟨_, rfl⟩
  have hTl : T.data.toList = txtL (u.map not) (v.map not) := by rw [← hT, S_data, hWl, tb_txt]
  have hTs26 : T.size ≤ 26 := by
    have : T.data.toList.length = T.size := by simp
    rw [← this, hTl, txtL_length, List.length_map, List.length_map]; omega
  have hturn := fun w5 => turned_any W w5 (by omega) hWs0
  rw [hT] at hturn
  obtain ⟨a, b, m, c2, c3, c4, g2, g3, g4, gm0, gm1, gc⟩ := ap_comp hu hv hv0 false
  obtain ⟨a', b', m', d2, d3, d4, k2, k3, k4, km0, km1, kc⟩ := ap_comp hu hv hv0 true
  have hc1 : compF (apB W T W (apE 97 110)).data.toList = .ok (apQ a b m 1 2 ([], [true]) c2 c3 c4) := by rw [apB_list, hWl, hTl]; exact gc
  have hc2 : compF (apB W T T (apE 110 97)).data.toList = .ok (apQ a' b' m' 2 1 ([], [true]) d2 d3 d4) := by rw [apB_list, hWl, hTl]; exact kc
  have hz1 := apB_size (E := apE 97 110) hWs26 hTs26 hWs26 rfl
  have hz2 := apB_size (E := apE 110 97) hWs26 hTs26 hTs26 rfl
  have hnum := numbers_any a1 30 w1 (by decide)
  have H1 : Hid (∀ X, OrdOk (apQ a b m 1 2 ([], [true]) c2 c3 c4) X → ∀ L : List Int, L.length = 30 → ∀ en tk us, runL X 30 0 (beginL (apQ a b m 1 2 ([], [true]) c2 c3 c4) [L] []) = (en, tk, us) → en = 1 ∧ outsOf us us = [L]) := fun X hX L hL en tk us hr => by
    obtain ⟨q1, _, q3⟩ := ap_run (sw := false) gc g2 g3 g4 gm0 gm1 hX L hL hr
    exact ⟨q1, q3⟩
  have H2 : Hid (∀ X, OrdOk (apQ a' b' m' 2 1 ([], [true]) d2 d3 d4) X → ∀ L : List Int, L.length = 30 → ∀ en tk us, runL X 30 0 (beginL (apQ a' b' m' 2 1 ([], [true]) d2 d3 d4) [L] []) = (en, tk, us) → en = 1 ∧ outsOf us us = [L]) := fun X hX L hL en tk us hr => by
    obtain ⟨q1, _, q3⟩ := ap_run (sw := true) kc k2 k3 k4 km0 km1 hX L hL hr
    exact ⟨q1, q3⟩
  have hb1s := hb1.size
  clear hword hWs hT hTl hWl hW gc kc g2 g3 g4 gm0 gm1 k2 k3 k4 km0 km1 hu hv hv0
  go_wp2_with fail
  refine hnum.mono ?_
  rintro e w2 ⟨⟨nv, L, rfl, hL, hown⟩, hb2⟩
  have hrd := Reads.of hown
  obtain ⟨np, nc, hne, _⟩ := hrd.form
  subst hne
  rw [← hL] at hrd
  have HRD : Hid (∀ w5, Below w2.heap.size w2 w5 → Reads w5 (.slice np 30 nc) 1 L.length (zs L)) := fun w5 h => by
    have := hrd.below h (Nat.le_refl _)
    rw [hL] at this ⊢
    exact this
  have hB2 : Below w.heap.size w w2 := hb1.trans (hb2.mono hb1s)
  have HLL : Hid (L.length = 30) := hL
  clear hnum hown hrd hL
  go_wp2_with fail
  refine (hturn _).mono ?_
  rintro e w3 ⟨rfl, hb3⟩
  have hone := one_any (apB W T W (apE 97 110)) _ np 30 nc 30 L L w3 hz1 hc1 (HRD.out w3 hb3) (by decide) rfl (fun X hX en tk us hr => H1.out X hX L HLL.out en tk us hr)
  go_wp2_with fail
  refine hone.mono ?_
  rintro e w4 ⟨⟨x1, rfl, hx1⟩, hb4⟩
  obtain ⟨xp, xc, hxe, _⟩ := hx1.form
  subst hxe
  have hB4 : Below w2.heap.size w2 w4 := hb3.trans (hb4.mono hb3.size)
  clear hone
  go_wp2_with fail
  refine (hturn _).mono ?_
  rintro e w5 ⟨rfl, hb5⟩
  go_wp2_with fail
  refine (hturn _).mono ?_
  rintro e w6 ⟨rfl, hb6⟩
  have hB46 : Below w4.heap.size w4 w6 := hb5.trans (hb6.mono hb5.size)
  have hB6 : Below w2.heap.size w2 w6 := hB4.trans (hB46.mono hB4.size)
  have hone := one_any (apB W T T (apE 110 97)) _ np 30 nc 30 L L w6 hz2 hc2 (HRD.out w6 hB6) (by decide) rfl (fun X hX en tk us hr => H2.out X hX L HLL.out en tk us hr)
  go_wp2_with fail
  refine hone.mono ?_
  rintro e w7 ⟨⟨x2, rfl, hx2⟩, hb7⟩
  obtain ⟨yp, yc, hye, _⟩ := hx2.form
  subst hye
  have hB7 : Below w2.heap.size w2 w7 := hB6.trans (hb7.mono hB6.size)
  have hx17 := (hx1.below hB46 (Nat.le_refl _)).below hb7 (Nat.le_refl _)
  have hs1 := same_eq L (.slice xp L.length xc) (.slice np 30 nc) w7 (by rw [HLL.out]; decide) hx17 (HRD.out w7 hB7)
  clear hone hturn
  go_wp2_with fail
  refine hs1.mono ?_
  rintro e w8 ⟨rfl, hb8⟩
  have hB8 : Below w2.heap.size w2 w8 := hB7.trans (hb8.mono hB7.size)
  have hs2 := same_eq L (.slice yp L.length yc) (.slice np 30 nc) w8 (by rw [HLL.out]; decide) (hx2.below hb8 (Nat.le_refl _)) (HRD.out w8 hB8)
  go_wp2_with fail
  refine hs2.mono ?_
  rintro e w9 ⟨rfl, hb9⟩
  have hB9 : Below w2.heap.size w2 w9 := hB8.trans (hb9.mono hB8.size)
  have hBf : Below w.heap.size w w9 := hB2.trans (hB9.mono hB2.size)
  clear hs1 hs2
  go_wp2
  go_ret
  exact ⟨rfl, hBf⟩

set_option maxRecDepth 100000 in
theorem lifted (os : Os) (started : os.Started) (H : Type) (enc : TypeId × Value → H) :
    ReturnsInHanded {} Try.checked os 7 .any (Rows.apartSpec.pre6 enc Try.prog Try.f7 Rows.apartRow.domain false) (Rows.apartSpec.post enc Try.prog Try.f7 false true false false) := by
  refine returnsInHanded_of_change (C := Try.checked) own started (by kernel_rfl) Try.func7
    (ChangeSpec.witness6 (enc := enc) (C := Try.checked) false ⟨#[], #[.int .i64 0, .int .i64 0], []⟩ 8 (by kernel_rfl) (by kernel_rfl) (by kernel_rfl) (by kernel_rfl)) ?_
  intro W base args ds gs before hval0 hW hcnd _
  have hval : ∀ (j : Nat) t v, Try.f7.params[j]? = some t → args[j]? = some v → Value.okWide Try.prog W .any base t v := hval0
  have hW' := hW
  obtain ⟨p, q, hA0, hV, rfl, hfz, hnd⟩ := hW
  have hA : DataW.TrodAll enc Try.prog W 0 (fun _ => true) true Try.f7.params.toList args.toList ds p := hA0
  rw [Try.params7] at hA hval
  obtain ⟨v0, vs0, d0, ds0, p0, q0, hargs, rfl, rfl, h0, r0⟩ := trodAll_cons hA
  obtain ⟨v1, vs1, d1, ds1, p1, q1, rfl, rfl, rfl, h1, r1⟩ := trodAll_cons r0
  obtain ⟨rfl, rfl, rfl⟩ := trodAll_nil r1
  obtain rfl : args = #[v0, v1] := by cases args; simp_all
  obtain ⟨rfl, rfl⟩ := trodVars_none hV
  obtain ⟨a0, rfl, rfl, rfl, w0⟩ := open_int Try.underlying3 (hval 0 3 v0 rfl rfl) h0
  obtain ⟨a1, rfl, rfl, rfl, w1⟩ := open_int Try.underlying3 (hval 1 3 v1 rfl rfl) h1
  clear hA0 hval0
  simp only [List.append_nil] at hW'
  refine (walk a0 a1 w0 w1 W).mono fun e W' ⟨he, hb⟩ => ?_
  subst he
  exact ⟨_, rfl, _, _, _, [], [], [], hW', trodAll_cons_mk (shut_bool Try.underlying4 _) trodAll_mk0, (trodAll_cons_mk (shut_int Try.underlying3 w0) (trodAll_cons_mk (shut_int Try.underlying3 w1) trodAll_mk0)), rfl, hb.frame _, fun h => by cases h⟩

theorem over : Rows.apartRow.holds Try.pinned (OpenSpec.ofChange Rows.apartSpec) :=
  OpenClaim.holds_of_wide 7 Try.f7 rfl rfl rfl rfl rfl rfl rfl ⟨rfl, rfl, rfl, rfl, rfl⟩ rfl rfl rfl rfl rfl (by kernel_rfl) Try.func7 (by kernel_rfl)
    (of_decide_eq_true (by kernel_rfl)) (by unfold Func.isWrapper; first | (rw [if_pos (by decide +kernel)]; kernel_rfl) | (rw [if_neg (by decide +kernel)]; exact ⟨rfl, rfl⟩))
    (fun os started H enc _ => lifted os started H enc)

end Go.Proofs.Ytfbkjopidjojeab.apart
namespace Go.Proofs.Ytfbkjopidjojeab
/-- The statement. -/
theorem apart_holds : Rows.ApartSaid := apart.over
#print axioms apart_holds
end Go.Proofs.Ytfbkjopidjojeab

