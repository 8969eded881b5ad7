/-
  Joined: Delayed.
-/
import Derived.Test.YtfbkjopidjojeabRows
import Derived.Test.YtfbkjopidjojeabPM
import Derived.WalkKit
import Derived.ProofKit
import Derived.OpenShut
import Derived.ShutString
namespace Go.Proofs.Ytfbkjopidjojeab.delayed
open Go.ChangeShapes Go.WideShapes Go.ChangeAt Go.RowKit
open Go.ChangeMaps (open_string shut_string)

theorem own : ownKnob Try.prog.godebug = none := by kernel_rfl

def d1B (D : ByteArray) : ByteArray := (({ data := #[105, 110, 32, 120, 32, 40, 49, 41, 10, 121, 32, 61, 32, 102, 98, 121, 32, 45] } : ByteArray) ++ D) ++ { data := #[32, 120, 10, 111, 117, 116, 32, 121] }
def d2B (D : ByteArray) : ByteArray := (({ data := #[111, 117, 116, 32, 121, 10, 121, 32, 61, 32, 98, 117, 102, 102, 101, 114, 32, 120, 32] } : ByteArray) ++ D) ++ { data := #[40, 49, 41, 10, 105, 110, 32, 120, 32, 40, 49, 41] }
theorem d1B_list (D : List UInt8) : (d1B (S D)).data.toList = d1L D := by
  unfold d1B d1L
  simp [S]
theorem d2B_list (n : Nat) : (d2B (S (List.replicate n 48))).data.toList = d2L n := by
  unfold d2B d2L
  simp [S]
theorem tl_size (X : ByteArray) : X.data.toList.length = X.size := by simp
theorem d1B_size {D : List UInt8} (h : D.length ≤ 10) : (d1B (S D)).size ≤ maxLen := by
  rw [← tl_size, d1B_list]
  unfold d1L
  simp only [List.length_append, List.length_cons, List.length_nil]
  unfold maxLen
  omega
theorem d2B_size {n : Nat} (h : n < 12) : (d2B (S (List.replicate n 48))).size ≤ maxLen := by
  rw [← tl_size, d2B_list]
  unfold d2L
  simp only [List.length_append, List.length_cons, List.length_nil, List.length_replicate]
  unfold maxLen
  omega
theorem rep_snoc (k : Nat) : S (List.replicate k 48) ++ { data := #[48] } = S (List.replicate (k + 1) 48) := by
  rw [List.replicate_succ', S_app]; rfl
theorem zs_cell1 {w : World} {p : Option Addr} {n c : Nat} {V : List Int} (h : Reads w (.slice p n c) 1 V.length (zs V)) (h0 : 0 < V.length) : ∃ b off, p = some ⟨b, off, none⟩ ∧ b < w.heap.size ∧ ∀ k, k < V.length → w.cell? ⟨b, off + k, none⟩ = some (.int .i64 (V.getD k 0)) := by
  obtain ⟨b, off, h1, h2, h3⟩ := h.cell h0
  refine ⟨b, off, h1, h2, fun k hk => ?_⟩
  rw [h3 k hk, zs_get hk]
  simp [hk]
theorem reads_tail {w : World} {b off n c : Nat} {V : List Int} (h : Reads w (.slice (some ⟨b, off, none⟩) n c) 1 V.length (zs V)) (h0 : 0 < V.length) : Reads w (.slice (some ⟨b, off + 1, none⟩) (n - 1) (c - 1)) 1 (V.drop 1).length (zs (V.drop 1)) := by
  obtain ⟨hl, q, c', he, hc, hrow⟩ := h
  injection he with e1 e2 e3
  subst e2; subst e3
  refine ⟨by simp [zs], _, c - 1, by rw [List.length_drop], by rw [List.length_drop]; omega, ?_⟩
  rcases hrow with h | ⟨b', off', h1, h2⟩
  · omega
  · right
    rw [← e1] at h1
    injection h1 with h1
    injection h1 with h3 h4 _
    subst h3; subst h4
    refine ⟨b, off + 1, rfl, ?_⟩
    have := h2.drop 1 (by rw [zs_length]; omega)
    simpa [zs] using this
theorem reads_front {w : World} {p : Option Addr} {n c k : Nat} {V : List Int} (h : Reads w (.slice p n c) 1 V.length (zs V)) (hk : k ≤ V.length) : Reads w (.slice p k c) 1 (V.take k).length (zs (V.take k)) := by
  obtain ⟨hl, q, c', he, hc, hrow⟩ := h
  injection he with e1 e2 e3
  have hlen : (V.take k).length = k := by rw [List.length_take]; omega
  refine ⟨by simp [zs], p, c, by rw [hlen], by rw [hlen]; omega, ?_⟩
  rcases hrow with h | ⟨b', off', h1, h2⟩
  · left; rw [hlen]; omega
  · right
    refine ⟨b', off', e1.trans h1, ?_⟩
    have := h2.take k
    simpa [zs] using this

set_option maxRecDepth 100000 in
set_option maxRecDepth 50000 in
set_option maxHeartbeats 4000000 in
theorem walk (a0 a1 a2 : Int) (w0 : (Lit.int .i64 a0).wf = true) (w1 : (Lit.int .i64 a1).wf = true) (_w2 : (Lit.int .i64 a2).wf = true) (w : World) :
    Calls Try.prog 8 #[.int .i64 a0, .int .i64 a1, .int .i64 a2] w fun e w' => e = .returned (.bool true) ∧ Below w.heap.size w w' := by
  have hpick := kpick_any a0 1073741824 w w0 (by decide) (by decide)
  have hpick2 := kpick_any a1 12 w w1 (by decide) (by decide)
  have hnum := numbers_any a2 30 w (by decide)
  clear w0 w1
  go_enter Try.func8, Try.ntmps8
  go_wp2_with fail
  refine hpick.mono ?_
  rintro e w9 ⟨⟨v, rfl, hv⟩, hw9⟩
  subst w9
  go_wp2_with fail
  refine hpick2.mono ?_
  rintro e w9 ⟨⟨n, rfl, hn⟩, hw9⟩
  subst w9
  go_wp2_with fail
  refine hnum.mono ?_
  rintro e w2 ⟨⟨nv, L, rfl, hL, hown⟩, hb2⟩
  have hrd := Reads.of hown
  obtain ⟨np, nc, hne, hnc⟩ := hrd.form
  subst hne
  have HLL : Hid (L.length = 30) := hL
  obtain ⟨nb, no, hnp, hnb, hcn⟩ := zs_cell1 (w := w2) (p := np) (n := 30) (c := nc) (V := L) (by rw [hL]; exact hrd) (by rw [hL]; decide)
  subst hnp
  have HCN : Hid (∀ w5, Below w2.heap.size w2 w5 → nb < w5.heap.size ∧ ∀ k, k < 30 → w5.cell? ⟨nb, no + k, none⟩ = some (.int .i64 (L.getD k 0))) := fun w5 h => by
    refine ⟨Nat.lt_of_lt_of_le hnb h.size, fun k hk => ?_⟩
    rw [h.cell (p := ⟨nb, no + k, none⟩) hnb]
    exact hcn k (by rw [HLL.out]; exact hk)
  have HRD : Hid (∀ w5, Below w2.heap.size w2 w5 → Reads w5 (.slice (some ⟨nb, no, none⟩) 30 nc) 1 L.length (zs L)) := fun w5 h => by
    have := hrd.below h (Nat.le_refl _)
    rw [HLL.out]
    exact this
  obtain ⟨hok1, hok2, hok3, hok4⟩ := digs_ok 10 v (by omega) (by decide)
  have hcall := num_any 10 v (by omega) (by decide) (by decide) w2
  have hnl := digs_num (v := v) (by omega)
  have hc1 := d1_comp (D := digs 10 v) (v := -(v : Int)) ⟨digs_no (by omega) (by decide) (by decide), digs_no (by omega) (by decide) (by decide)⟩ hok3 hnl
  have hc1' : compF (d1B (S (digs 10 v))).data.toList = .ok (d1Q (-(v : Int)) ([], [true]) ([], [true])) := by rw [d1B_list]; exact hc1
  have hz1 := d1B_size hok3
  have hDs : (S (digs 10 v)).size ≤ 10 := by rw [S_size]; exact hok3
  have hr1 : ∀ X, OrdOk (d1Q (-(v : Int)) ([], [true]) ([], [true])) X → ∀ en tk us, runL X 30 0 (beginL (d1Q (-(v : Int)) ([], [true]) ([], [true])) [L] []) = (en, tk, us) → en = 1 ∧ outsOf us us = [((-(v : Int)) :: L).take 30] := fun X hX en tk us hr => d1_run ⟨_, hc1⟩ L HLL.out hX hr
  have hone1 := fun w5 (h : Below w2.heap.size w2 w5) => one_any (d1B (S (digs 10 v))) _ (some ⟨nb, no, none⟩) 30 nc 30 L _ w5 hz1 hc1' (HRD.out w5 h) (by decide) rfl hr1
  obtain ⟨D, hD⟩ : ∃ D, S (digs 10 v) = D := ⟨_, rfl⟩
  rw [hD] at hcall hDs hone1
  clear hpick hpick2 hnum hown hrd hL hcn hnb hok1 hok2 hok3 hok4 hnl hc1 hc1' hz1 hr1 hD
  go_wp2_with fail
  refine hcall.mono ?_
  rintro e w3 ⟨rfl, hb3⟩
  go_wp2_with fail
  refine (hone1 w3 hb3).mono ?_
  rintro e w4 ⟨⟨x1, rfl, hx1⟩, hb4⟩
  have hB4 : Below w2.heap.size w2 w4 := hb3.trans (hb4.mono hb3.size)
  have hO1 : (((-(v : Int)) :: L).take 30).length = 30 := by rw [List.length_take, List.length_cons, HLL.out]; rfl
  obtain ⟨xp, xc, hxe, hxc⟩ := hx1.form
  subst hxe
  obtain ⟨xb, xo, rfl, hxb, hcl⟩ := zs_cell1 hx1 (by rw [hO1]; decide)
  have cx0 : w4.cell? ⟨xb, xo, none⟩ = some (.int .i64 (-(v : Int))) := hcl 0 (by rw [hO1]; decide)
  have htl := reads_tail hx1 (by rw [hO1]; decide)
  rw [hO1] at htl hxc ⊢
  have hdrop : (((-(v : Int)) :: L).take 30).drop 1 = L.take 29 := by
    show ((-(v : Int)) :: L.take 29).drop 1 = _
    rfl
  rw [hdrop] at htl
  have hfr := reads_front (HRD.out w4 hB4) (k := 29) (by rw [HLL.out]; decide)
  have hsame := same_eq (L.take 29) (.slice (some ⟨xb, xo + 1, none⟩) 29 (xc - 1)) (.slice (some ⟨nb, no, none⟩) 29 nc) w4.drew (by rw [List.length_take, HLL.out]; decide) htl.drew hfr.drew
  have hxc1 : ¬ xc = 1 := by omega
  have hncI : (29 : Int) ≤ (nc : Int) := by omega
  have hncI2 : (30 : Int) ≤ (nc : Int) := by omega
  have hxcI : (30 : Int) ≤ (xc : Int) := by omega
  have hxcI2 : (1 : Int) ≤ (xc : Int) := by omega
  have hncN : 29 ≤ nc := by omega
  have hneg : wrap64 (-(v : Int)) = -(v : Int) := by unfold wrap64; omega
  have hgn : ((-(v : Int)) != (-(v : Int))) = false := by simp
  clear hone1 hcall hx1 hcl htl hfr hdrop hO1
  go_wp2
  go_region_held3 (fun w' => w'.cell? ⟨xb, xo, none⟩ = some (.int .i64 (-(v : Int)))) (go_keep)
    (first | (go_at_call 19; refine hsame.mono ?_; rintro e w5 ⟨hK, hb5⟩; subst hK; have hb5' : Below w4.heap.size w4 w5 := below_undrew (W := w4) hb5; have g1 := hb5'.cell (p := ⟨xb, xo, none⟩) hxb; rw [cx0] at g1))
  have hB5 : Below w2.heap.size w2 w5 := hB4.trans (hb5'.mono hB4.size)
  clear hsame g1 cx0 hxb hncI hncI2 hxcI hxcI2 hxc1 hneg hgn hncN
  have HZ0 : Hid ((0 : Nat) ≤ n) := Nat.zero_le _
  have h2one := fun w6 (h : Below w2.heap.size w2 w6) => one_any (d2B (S (List.replicate n 48))) (d2Q n) (some ⟨nb, no, none⟩) 30 nc 30 L (L.take (30 - n)) w6 (d2B_size hn) (by rw [d2B_list]; exact d2_comp hn) (HRD.out w6 h) (by decide) rfl (fun X hX en tk us hr => d2_run hn L HLL.out hX hr)
  have h3one := fun w6 (h : Below w2.heap.size w2 w6) => one_any d3B d3Q (some ⟨nb, no, none⟩) 30 nc 30 L ((List.range 30).map fun k => sumL L (k + 1)) w6 (by decide) d3_comp (HRD.out w6 h) (by decide) rfl (fun X hX en tk us hr => d3_run L HLL.out hX hr)
  go_wp2
  go_loop [12, 13] (fun s i => ∃ k : Nat, k ≤ n ∧ i = .int .i64 k ∧ s = .string (S (List.replicate k 48))) (fun _ i => n - (intOf i).toNat)
  case atStart => exact ⟨0, Nat.zero_le _, rfl, rfl⟩
  case round =>
    obtain ⟨k, hk, rfl, rfl⟩ := hrel
    by_cases hkn : k < n
    · obtain ⟨Z, hZ⟩ : ∃ Z, S (List.replicate k 48) = Z := ⟨_, rfl⟩
      have hZs : Z.size ≤ 12 := by rw [← hZ, S_size, List.length_replicate]; omega
      have HZ : Hid (S (List.replicate k 48) = Z) := hZ
      rw [hZ]
      clear hZ h2one h3one
      go_wp2
      go_round
      case rel => exact ⟨k + 1, by omega, by go_num, by rw [← rep_snoc, HZ.out]⟩
      case measure => simp [intOf]; omega
    · have hke : k = n := by omega
      subst hke
      obtain ⟨Z, hZ⟩ : ∃ Z, S (List.replicate k 48) = Z := ⟨_, rfl⟩
      have hZs : Z.size ≤ 12 := by rw [← hZ, S_size, List.length_replicate]; omega
      rw [hZ] at h2one ⊢
      clear hZ
      go_wp2_with fail
      refine (h2one w5 hB5).mono ?_
      rintro e w6 ⟨⟨y1, rfl, hy1⟩, hb6⟩
      have hB6 : Below w2.heap.size w2 w6 := hB5.trans (hb6.mono hB5.size)
      have hO2 : (L.take (30 - k)).length = 30 - k := by rw [List.length_take, HLL.out]; omega
      obtain ⟨yp, yc, hye, hyc⟩ := hy1.form
      subst hye
      have hbeg := begins_pre (L.take (30 - k)) L (.slice yp (L.take (30 - k)).length yc) (.slice (some ⟨nb, no, none⟩) 30 nc) w6 (by rw [hO2]; omega) hy1 (HRD.out w6 hB6) (List.take_prefix _ _)
      rw [hO2] at hbeg ⊢
      clear h2one hy1 hyc hO2
      go_wp2_with fail
      refine hbeg.mono ?_
      rintro e w7 ⟨rfl, hb7⟩
      have hB7 : Below w2.heap.size w2 w7 := hB6.trans (hb7.mono hB6.size)
      clear hbeg
      go_wp2_with fail
      refine (h3one w7 hB7).mono ?_
      rintro e w8 ⟨⟨z1, rfl, hz1⟩, hb8⟩
      have hB8 : Below w2.heap.size w2 w8 := hB7.trans (hb8.mono hB7.size)
      have hO3 : ((List.range 30).map fun k => sumL L (k + 1)).length = 30 := by simp
      obtain ⟨zp, zc, hze, hzc⟩ := hz1.form
      subst hze
      obtain ⟨zb, zo, rfl, hzb, hcz⟩ := zs_cell1 hz1 (by rw [hO3]; decide)
      rw [hO3]
      have HCZ : Hid (∀ i, i < 30 → w8.cell? ⟨zb, zo + i, none⟩ = some (.int .i64 (sumL L (i + 1)))) := fun i hi => by
        rw [hcz i (by rw [hO3]; exact hi), tabI_get hi]
      obtain ⟨hnb8, hcn8⟩ := HCN.out w8 hB8
      have HCN8 : Hid (∀ i, i < 30 → w8.cell? ⟨nb, no + i, none⟩ = some (.int .i64 (L.getD i 0))) := hcn8
      have hk30 : (30 : Int) - (k : Int) = ((30 - k : Nat) : Int) := by omega
      have hlen1 : (((30 - k : Nat) : Int) != ((30 - k : Nat) : Int)) = false := by simp
      obtain ⟨lk, hlk⟩ : ∃ lk, 30 - k = lk := ⟨_, rfl⟩
      rw [hlk] at hk30 hlen1 ⊢
      have hBf : Below w.heap.size w w8 := hb2.trans (hB8.mono hb2.size)
      clear h3one hz1 hcz hcn8 hzc hO3 hlk
      go_wp2
      go_loop [19, 20] (fun sm i => ∃ j : Nat, j ≤ 30 ∧ i = .int .i64 j ∧ sm = .int .i64 (sumL L j)) (fun _ i => 30 - (intOf i).toNat)
      case atStart => exact ⟨0, Nat.zero_le _, rfl, rfl⟩
      case round =>
        obtain ⟨j, hj, rfl, rfl⟩ := hrel
        by_cases hjn : j < 30
        · have c1 := HCZ.out j hjn
          have c2 := HCN8.out j hjn
          have hsum : sumL L (j + 1) = wrap64 (sumL L j + L.getD j 0) := rfl
          obtain ⟨s0, hs0⟩ : ∃ s0, sumL L j = s0 := ⟨_, rfl⟩
          obtain ⟨s1, hs1⟩ : ∃ s1, sumL L (j + 1) = s1 := ⟨_, rfl⟩
          obtain ⟨x0, hx0⟩ : ∃ x0, L.getD j 0 = x0 := ⟨_, rfl⟩
          rw [hs0, hs1, hx0] at hsum
          rw [hs1] at c1
          rw [hx0] at c2
          rw [hs0]
          have HS1 : Hid (sumL L (j + 1) = s1) := hs1
          have hw : wrap64 (s0 + x0) = s1 := hsum.symm
          have hne : (s1 != s1) = false := by simp
          clear hs0 hs1 hx0 hsum
          go_wp2
          go_round
          case rel => exact ⟨j + 1, by omega, by go_num, by rw [HS1.out, hw]⟩
          case measure => simp [intOf]; omega
        · go_wp2
          go_ret
          exact ⟨rfl, hBf⟩

set_option maxRecDepth 100000 in
theorem lifted (os : Os) (started : os.Started) (H : Type) (enc : TypeId × Value → H) :
    ReturnsInHanded {} Try.checked os 8 .any (Rows.delayedSpec.pre6 enc Try.prog Try.f8 Rows.delayedRow.domain false) (Rows.delayedSpec.post enc Try.prog Try.f8 false true false false) := by
  refine returnsInHanded_of_change (C := Try.checked) own started (by kernel_rfl) Try.func8
    (ChangeSpec.witness6 (enc := enc) (C := Try.checked) false ⟨#[], #[.int .i64 0, .int .i64 0, .int .i64 0], []⟩ 8 (by kernel_rfl) (by kernel_rfl) (by kernel_rfl) (by kernel_rfl)) ?_
  intro W base args ds gs before hval0 hW hcnd _
  have hval : ∀ (j : Nat) t v, Try.f8.params[j]? = some t → args[j]? = some v → Value.okWide Try.prog W .any base t v := hval0
  have hW' := hW
  obtain ⟨p, q, hA0, hV, rfl, hfz, hnd⟩ := hW
  have hA : DataW.TrodAll enc Try.prog W 0 (fun _ => true) true Try.f8.params.toList args.toList ds p := hA0
  rw [Try.params8] at hA hval
  obtain ⟨v0, vs0, d0, ds0, p0, q0, hargs, rfl, rfl, h0, r0⟩ := trodAll_cons hA
  obtain ⟨v1, vs1, d1, ds1, p1, q1, rfl, rfl, rfl, h1, r1⟩ := trodAll_cons r0
  obtain ⟨v2, vs2, d2, ds2, p2, q2, rfl, rfl, rfl, h2, r2⟩ := trodAll_cons r1
  obtain ⟨rfl, rfl, rfl⟩ := trodAll_nil r2
  obtain rfl : args = #[v0, v1, v2] := by cases args; simp_all
  obtain ⟨rfl, rfl⟩ := trodVars_none hV
  obtain ⟨a0, rfl, rfl, rfl, w0⟩ := open_int Try.underlying3 (hval 0 3 v0 rfl rfl) h0
  obtain ⟨a1, rfl, rfl, rfl, w1⟩ := open_int Try.underlying3 (hval 1 3 v1 rfl rfl) h1
  obtain ⟨a2, rfl, rfl, rfl, w2⟩ := open_int Try.underlying3 (hval 2 3 v2 rfl rfl) h2
  clear hA0 hval0
  simp only [List.append_nil] at hW'
  refine (walk a0 a1 a2 w0 w1 w2 W).mono fun e W' ⟨he, hb⟩ => ?_
  subst he
  exact ⟨_, rfl, _, _, _, [], [], [], hW', trodAll_cons_mk (shut_bool Try.underlying4 _) trodAll_mk0, (trodAll_cons_mk (shut_int Try.underlying3 w0) (trodAll_cons_mk (shut_int Try.underlying3 w1) (trodAll_cons_mk (shut_int Try.underlying3 w2) trodAll_mk0))), rfl, hb.frame _, fun h => by cases h⟩

theorem over : Rows.delayedRow.holds Try.pinned (OpenSpec.ofChange Rows.delayedSpec) :=
  OpenClaim.holds_of_wide 8 Try.f8 rfl rfl rfl rfl rfl rfl rfl ⟨rfl, rfl, rfl, rfl, rfl⟩ rfl rfl rfl rfl rfl (by kernel_rfl) Try.func8 (by kernel_rfl)
    (of_decide_eq_true (by kernel_rfl)) (by unfold Func.isWrapper; first | (rw [if_pos (by decide +kernel)]; kernel_rfl) | (rw [if_neg (by decide +kernel)]; exact ⟨rfl, rfl⟩))
    (fun os started H enc _ => lifted os started H enc)

end Go.Proofs.Ytfbkjopidjojeab.delayed
namespace Go.Proofs.Ytfbkjopidjojeab
/-- The statement. -/
theorem delayed_holds : Rows.DelayedSaid := delayed.over
#print axioms delayed_holds
end Go.Proofs.Ytfbkjopidjojeab

