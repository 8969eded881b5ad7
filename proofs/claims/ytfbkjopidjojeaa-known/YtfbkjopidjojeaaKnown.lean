/-
  The law Known of package streamskeep.
-/
import Derived.Test.YtfbkjopidjojeaaRows
import Derived.Test.YtfbkjopidjojeaaWo
import Derived.WalkKit
import Derived.ProofKit
import Derived.OpenShut
import Derived.ShutString
namespace Go.Proofs.Ytfbkjopidjojeaa.known
open Go.ChangeShapes Go.WideShapes Go.ChangeAt Go.RowKit
open Go.ChangeMaps (open_string shut_string)

theorem own : ownKnob Try.prog.godebug = none := by kernel_rfl

theorem ne_of_txt {p q : List Bool} (c : UInt8) : ((txt (bs p) (bs q)).toList == [c]) = false := by
  rw [beq_eq_false_iff_ne]
  intro e
  have h : (txt (bs p) (bs q)).toList.length = p.length + q.length + 2 := by rw [ByteArray.toList_eq, txt_toList, txtL_length]
  rw [e] at h; simp at h
theorem txt_small {p q : List Bool} (hp : p.length ≤ 64) (hq : q.length ≤ 64) : (txt (bs p) (bs q)).size ≤ maxLen := by
  rw [txt_size]; unfold maxLen; omega
theorem long_told {u v : List Bool} (h : 64 < u.length ∨ 64 < v.length) : toldS u v = ⟨#[]⟩ ∧ toldE u v = 2 := by
  unfold toldS toldE; rw [if_pos h, if_pos h]; exact ⟨rfl, rfl⟩

set_option maxRecDepth 50000 in
set_option maxHeartbeats 4000000 in
theorem walk (a0 : Int) (w0 : (Lit.int .i64 a0).wf = true) (w : World) :
    Calls Try.prog 9 #[.int .i64 a0] w fun e w' => e = .returned (.bool true) ∧ Below w.heap.size w w' := by
  go_enter Try.func9, Try.ntmps9
  go_wp2_with fail
  refine (pick_any a0 29 (K0 w) w0 (by omega) (by omega)).mono ?_
  rintro e w1 ⟨⟨r, rfl, hr⟩, hw1⟩
  subst w1
  obtain ⟨B, s0, s1, s2, s3, c0, c1, c2, c3, c4, hB, hg, z1, z2⟩ := K0_known w r hr
  have hb := K0_below w
  have HG : Hid (GoodRow s0 s1 s2 s3) := hg
  clear hg
  have hr2 : (r : Int) < 29 := by omega
  generalize K0 w = W at *
  obtain ⟨O, hO⟩ : ∃ O, O = outer w.heap.size := ⟨_, rfl⟩
  rw [← hO] at c0
  unfold outer at hO
  rw [← hO]
  clear hO
  rcases HG.out with ⟨rfl, k1, p, q, hn, hp, hq, rfl⟩ | ⟨rfl, k1, rfl⟩ | ⟨rfl, k1, p, q, hn, hp, hq, rfl⟩ | ⟨rfl, k1, k2, p, q, hn, hp, hq, rfl⟩ | ⟨rfl, k1, rfl⟩ | ⟨rfl, k1, k2, ⟨p, q, hn, hl⟩, rfl⟩ | ⟨rfl, k1, k2, p, q, hn, hp, hq, rfl⟩ | ⟨rfl, k1, k2, ⟨p, q, hn, hl⟩, rfl⟩ <;> clear HG
  · have n1 := ne_of_txt (p := p) (q := q) 45
    have n2 := ne_of_txt (p := p) (q := q) 43
    go_wp2_with fail
    refine (sNormal_yes s1 W z1 k1).mono ?_
    rintro e w2 ⟨⟨x, y, rfl, hx⟩, hb2⟩
    obtain ⟨rfl, rfl⟩ := hn.unique hx
    obtain ⟨e1, e2⟩ := toldS_short hp hq
    rw [e1, e2]
    have c4' : w2.cell? ⟨B, 3, none⟩ = some (.string (txt (bs p) (bs q))) := by rw [hb2.cell (p := ⟨B, 3, none⟩) hB]; exact c4
    clear e1 e2
    go_wp2
    go_ret
    exact ⟨rfl, hb.trans (hb2.mono hb.size)⟩
  · go_wp2_with fail
    refine (sNormal_no s1 W z1 k1).mono ?_
    rintro e w2 ⟨rfl, hb2⟩
    have c4' : w2.cell? ⟨B, 3, none⟩ = some (.string ⟨#[45]⟩) := by rw [hb2.cell (p := ⟨B, 3, none⟩) hB]; exact c4
    go_wp2
    go_ret
    exact ⟨rfl, hb.trans (hb2.mono hb.size)⟩
  · have n1 := ne_of_txt (p := p) (q := q) 45
    have n2 := ne_of_txt (p := p) (q := q) 43
    go_wp2_with fail
    refine (sNot_yes s1 W z1 k1).mono ?_
    rintro e w2 ⟨⟨x, y, rfl, hx⟩, hb2⟩
    obtain ⟨rfl, rfl⟩ := hn.unique hx
    obtain ⟨e1, e2⟩ := toldS_short hp hq
    rw [e1, e2]
    have c4' : w2.cell? ⟨B, 3, none⟩ = some (.string (txt (bs p) (bs q))) := by rw [hb2.cell (p := ⟨B, 3, none⟩) hB]; exact c4
    clear e1 e2
    go_wp2
    go_ret
    exact ⟨rfl, hb.trans (hb2.mono hb.size)⟩
  · have n1 := ne_of_txt (p := p) (q := q) 45
    have n2 := ne_of_txt (p := p) (q := q) 43
    go_wp2_with fail
    go_region_held3 (fun w' => w'.cell? ⟨B, 1, none⟩ = some (.string s1) ∧ w'.cell? ⟨B, 2, none⟩ = some (.string s2)) (go_keep)
      (first | (go_at_call 14; refine (sEither_yes s1 s2 _ z1 z2 k1 k2).mono ?_; rintro e w2 ⟨⟨x, y, rfl, hx⟩, hb2⟩; have hb2' := below_undrew (W := W) hb2; have d1 : w2.cell? ⟨B, 1, none⟩ = some (.string s1) := (hb2'.cell (p := ⟨B, 1, none⟩) hB).trans c2; have d2 : w2.cell? ⟨B, 2, none⟩ = some (.string s2) := (hb2'.cell (p := ⟨B, 2, none⟩) hB).trans c3))
    obtain ⟨rfl, rfl⟩ := hn.unique hx
    obtain ⟨e1, e2⟩ := toldS_short hp hq
    rw [e1, e2]
    have c4' : w2.cell? ⟨B, 3, none⟩ = some (.string (txt (bs p) (bs q))) := by rw [hb2'.cell (p := ⟨B, 3, none⟩) hB]; exact c4
    clear e1 e2
    go_wp2
    go_ret
    exact ⟨rfl, hb.trans (hb2'.mono hb.size)⟩
  · go_wp2_with fail
    go_region_held3 (fun w' => w'.cell? ⟨B, 1, none⟩ = some (.string s1) ∧ w'.cell? ⟨B, 2, none⟩ = some (.string s2)) (go_keep)
      (first | (go_at_call 14; refine (sEither_no s1 s2 _ z1 z2 k1).mono ?_; rintro e w2 ⟨rfl, hb2⟩; have hb2' := below_undrew (W := W) hb2; have d1 : w2.cell? ⟨B, 1, none⟩ = some (.string s1) := (hb2'.cell (p := ⟨B, 1, none⟩) hB).trans c2; have d2 : w2.cell? ⟨B, 2, none⟩ = some (.string s2) := (hb2'.cell (p := ⟨B, 2, none⟩) hB).trans c3))
    have c4' : w2.cell? ⟨B, 3, none⟩ = some (.string ⟨#[45]⟩) := by rw [hb2'.cell (p := ⟨B, 3, none⟩) hB]; exact c4
    go_wp2
    go_ret
    exact ⟨rfl, hb.trans (hb2'.mono hb.size)⟩
  · go_wp2_with fail
    go_region_held3 (fun w' => w'.cell? ⟨B, 1, none⟩ = some (.string s1) ∧ w'.cell? ⟨B, 2, none⟩ = some (.string s2)) (go_keep)
      (first | (go_at_call 14; refine (sEither_yes s1 s2 _ z1 z2 k1 k2).mono ?_; rintro e w2 ⟨⟨x, y, rfl, hx⟩, hb2⟩; have hb2' := below_undrew (W := W) hb2; have d1 : w2.cell? ⟨B, 1, none⟩ = some (.string s1) := (hb2'.cell (p := ⟨B, 1, none⟩) hB).trans c2; have d2 : w2.cell? ⟨B, 2, none⟩ = some (.string s2) := (hb2'.cell (p := ⟨B, 2, none⟩) hB).trans c3))
    obtain ⟨rfl, rfl⟩ := hn.unique hx
    obtain ⟨e1, e2⟩ := long_told hl
    rw [e1, e2]
    have c4' : w2.cell? ⟨B, 3, none⟩ = some (.string ⟨#[43]⟩) := by rw [hb2'.cell (p := ⟨B, 3, none⟩) hB]; exact c4
    clear e1 e2
    go_wp2
    go_ret
    exact ⟨rfl, hb.trans (hb2'.mono hb.size)⟩
  · have n1 := ne_of_txt (p := p) (q := q) 45
    have n2 := ne_of_txt (p := p) (q := q) 43
    go_wp2_with fail
    go_region_held3 (fun w' => w'.cell? ⟨B, 1, none⟩ = some (.string s1) ∧ w'.cell? ⟨B, 2, none⟩ = some (.string s2)) (go_keep)
      (first | (go_at_call 15; refine (sOn_yes s1 s2 _ z1 z2 k1 k2).mono ?_; rintro e w2 ⟨⟨x, y, rfl, hx⟩, hb2⟩; have hb2' := below_undrew (W := W) hb2; have d1 : w2.cell? ⟨B, 1, none⟩ = some (.string s1) := (hb2'.cell (p := ⟨B, 1, none⟩) hB).trans c2; have d2 : w2.cell? ⟨B, 2, none⟩ = some (.string s2) := (hb2'.cell (p := ⟨B, 2, none⟩) hB).trans c3))
    obtain ⟨rfl, rfl⟩ := hn.unique hx
    obtain ⟨e1, e2⟩ := toldS_short hp hq
    rw [e1, e2]
    have c4' : w2.cell? ⟨B, 3, none⟩ = some (.string (txt (bs p) (bs q))) := by rw [hb2'.cell (p := ⟨B, 3, none⟩) hB]; exact c4
    clear e1 e2
    go_wp2
    go_ret
    exact ⟨rfl, hb.trans (hb2'.mono hb.size)⟩
  · go_wp2_with fail
    go_region_held3 (fun w' => w'.cell? ⟨B, 1, none⟩ = some (.string s1) ∧ w'.cell? ⟨B, 2, none⟩ = some (.string s2)) (go_keep)
      (first | (go_at_call 15; refine (sOn_yes s1 s2 _ z1 z2 k1 k2).mono ?_; rintro e w2 ⟨⟨x, y, rfl, hx⟩, hb2⟩; have hb2' := below_undrew (W := W) hb2; have d1 : w2.cell? ⟨B, 1, none⟩ = some (.string s1) := (hb2'.cell (p := ⟨B, 1, none⟩) hB).trans c2; have d2 : w2.cell? ⟨B, 2, none⟩ = some (.string s2) := (hb2'.cell (p := ⟨B, 2, none⟩) hB).trans c3))
    obtain ⟨rfl, rfl⟩ := hn.unique hx
    obtain ⟨e1, e2⟩ := long_told hl
    rw [e1, e2]
    have c4' : w2.cell? ⟨B, 3, none⟩ = some (.string ⟨#[43]⟩) := by rw [hb2'.cell (p := ⟨B, 3, none⟩) hB]; exact c4
    clear e1 e2
    go_wp2
    go_ret
    exact ⟨rfl, hb.trans (hb2'.mono hb.size)⟩

set_option maxRecDepth 100000 in
theorem lifted (os : Os) (started : os.Started) (H : Type) (enc : TypeId × Value → H) :
    ReturnsInHanded {} Try.checked os 9 .any (Rows.knownSpec.pre6 enc Try.prog Try.f9 Rows.knownRow.domain false) (Rows.knownSpec.post enc Try.prog Try.f9 false true false false) := by
  refine returnsInHanded_of_change (C := Try.checked) own started (by kernel_rfl) Try.func9
    (ChangeSpec.witness6 (enc := enc) (C := Try.checked) false ⟨#[], #[.int .i64 0], []⟩ 8 (by kernel_rfl) (by kernel_rfl) (by kernel_rfl) (by kernel_rfl)) ?_
  intro W base args ds gs before hval0 hW hcnd _
  have hval : ∀ (j : Nat) t v, Try.f9.params[j]? = some t → args[j]? = some v → Value.okWide Try.prog W .any base t v := hval0
  have hW' := hW
  obtain ⟨p, q, hA0, hV, rfl, hfz, hnd⟩ := hW
  have hA : DataW.TrodAll enc Try.prog W 0 (fun _ => true) true Try.f9.params.toList args.toList ds p := hA0
  rw [Try.params9] at hA hval
  obtain ⟨v0, vs0, d0, ds0, p0, q0, hargs, rfl, rfl, h0, r0⟩ := trodAll_cons hA
  obtain ⟨rfl, rfl, rfl⟩ := trodAll_nil r0
  obtain rfl : args = #[v0] := by cases args; simp_all
  obtain ⟨rfl, rfl⟩ := trodVars_none hV
  obtain ⟨a0, rfl, rfl, rfl, w0⟩ := open_int Try.underlying3 (hval 0 3 v0 rfl rfl) h0
  clear hA0 hval0
  simp only [List.append_nil] at hW'
  refine (walk a0 w0 W).mono fun e W' ⟨he, hb⟩ => ?_
  subst he
  exact ⟨_, rfl, _, _, _, [], [], [], hW', trodAll_cons_mk (shut_bool Try.underlying4 _) trodAll_mk0, (trodAll_cons_mk (shut_int Try.underlying3 w0) trodAll_mk0), rfl, hb.frame _, fun h => by cases h⟩

theorem over : Rows.knownRow.holds Try.pinned (OpenSpec.ofChange Rows.knownSpec) :=
  OpenClaim.holds_of_wide 9 Try.f9 rfl rfl rfl rfl rfl rfl rfl ⟨rfl, rfl, rfl, rfl, rfl⟩ rfl rfl rfl rfl rfl (by kernel_rfl) Try.func9 (by kernel_rfl)
    (of_decide_eq_true (by kernel_rfl)) (by unfold Func.isWrapper; first | (rw [if_pos (by decide +kernel)]; kernel_rfl) | (rw [if_neg (by decide +kernel)]; exact ⟨rfl, rfl⟩))
    (fun os started H enc _ => lifted os started H enc)

end Go.Proofs.Ytfbkjopidjojeaa.known
namespace Go.Proofs.Ytfbkjopidjojeaa
/-- The statement. -/
theorem known_holds : Rows.KnownSaid := known.over
#print axioms known_holds
end Go.Proofs.Ytfbkjopidjojeaa
