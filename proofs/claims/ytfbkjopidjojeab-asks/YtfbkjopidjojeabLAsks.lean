/-
  Joined: Asks.
-/
import Derived.Test.YtfbkjopidjojeabRows
import Derived.Test.YtfbkjopidjojeabPI
import Derived.WalkKit
import Derived.ProofKit
import Derived.OpenShut
import Derived.ShutString
namespace Go.Proofs.Ytfbkjopidjojeab.asks
open Go.ChangeShapes Go.WideShapes Go.ChangeAt Go.RowKit
open Go.ChangeMaps (open_string shut_string)

theorem own : ownKnob Try.prog.godebug = none := by kernel_rfl

theorem names_own (R : List St) : namesL R 1 R = (R.filter fun s => s.kind == 1).map St.name := by
  unfold namesL
  apply List.map_congr_left
  intro s hs
  have hk : s.kind = 1 := by simpa using (List.mem_filter.1 hs).2
  unfold nameL
  rw [if_neg (fun e => by omega)]
theorem in_get {R : List St} {i : Nat} (h : i < (R.filter fun s => s.kind == 1).length) : ∃ j : Nat, R[j]? = some (R.filter fun s => s.kind == 1)[i] ∧ (R.filter fun s => s.kind == 1)[i].kind = 1 := by
  have hm := List.getElem_mem h
  obtain ⟨h1, h2⟩ := List.mem_filter.1 hm
  obtain ⟨j, hj⟩ := List.getElem?_of_mem h1
  exact ⟨j, hj, by simpa using h2⟩

/-- Whether an input wants more. -/
def Sm (U : List St) (n tk k : Nat) (sb : Bool) : Prop := sb = true ↔ ∃ j, ∃ h : j < U.length, j < k ∧ n < ones (ckS U[j]) (tk + 1)

set_option maxRecDepth 100000 in
set_option maxRecDepth 50000 in
set_option maxHeartbeats 4000000 in
theorem walk (a0 : ByteArray) (a1 a2 : Int) (w0 : a0.size ≤ maxLen) (w1 : (Lit.int .i64 a1).wf = true) (_w2 : (Lit.int .i64 a2).wf = true) (w : World) :
    Calls Try.prog 5 #[.string a0, .int .i64 a1, .int .i64 a2] w fun e w' => e = .returned (.bool true) ∧ Below w.heap.size w w' := by
  have hread := read_any a0 w w0
  have hpick := fun w5 => kpick_any a1 30 w5 w1 (by decide) (by decide)
  clear w0 w1
  go_enter Try.func5, Try.ntmps5
  go_wp2_with fail
  refine hread.mono ?_
  rintro e w1 ⟨hR, hb1⟩
  rcases hR with ⟨f, _, rfl⟩ | ⟨qs, v, b, hqs, rfl, hBb, hcell, hsteps⟩
  · clear hread hpick
    go_wp2
    go_ret
    exact ⟨rfl, hb1⟩
  · have hpw := read_pw hqs hcell hsteps
    obtain ⟨R, hRe⟩ : ∃ R, qs.map Prod.fst = R := ⟨_, rfl⟩
    rw [hRe] at hpw
    have HPW : Hid (PW w1 b qs R) := hpw
    clear hread hqs hcell hsteps hpw hRe hBb
    go_wp2_with fail
    refine (hpick w1).mono ?_
    rintro e w9 ⟨⟨n, rfl, hn⟩, hw9⟩
    subst w9
    have hgiv := given_pw HPW.out n a2 (by omega)
    clear hpick
    go_wp2_with fail
    refine hgiv.mono ?_
    rintro e w2 ⟨⟨lp, lc, rfl, hLL⟩, hb2⟩
    have hpw2 := HPW.out.below hb2
    have hrun := run_pw hpw2 lp lc 200 (cntL R 1) (gLs a2 n (cntL R 1)) (gLs_len _ _ _) hLL (by decide) (gLs_len _ _ _)
    have HPW2 : Hid (PW w2 b qs R) := hpw2
    clear hpw2 hgiv hLL
    go_wp2_with fail
    refine hrun.mono ?_
    rintro e w3 ⟨⟨X, hO, ov, mv, vs, B, en, tk, us, hB0, hr2, rfl, hTL⟩, hb3⟩
    obtain ⟨_, htk, hnw, hend⟩ := run_nil HPW2.out.good hO gLs_each (gLs_len _ _ _) (by decide) hr2
    have hpw3 := HPW2.out.below hb3
    obtain ⟨op, on, oc, hoe⟩ := own_isSlice hTL.outs
    subst hoe
    obtain ⟨mp, mn, mc, hme⟩ := own_isSlice hTL.most
    subst hme
    obtain ⟨W3, hW3⟩ : ∃ W3, W3 = w3.alloc (Obj.cells #[.int .i64 en, .int .i64 tk, .slice op on oc, .slice mp mn mc] 40) := ⟨_, rfl⟩
    have hbW : Below w3.heap.size w3 W3 := by rw [hW3]; exact (Below.refl _ _).alloc (Nat.le_refl _) _
    have hsW : W3.heap.size = w3.heap.size + 1 := by rw [hW3]; simp
    have hc0 : W3.cell? ⟨w3.heap.size, 0, none⟩ = some (.int .i64 en) := by rw [hW3, cell_of_row _ _ 0 _ _ _ (heap_alloc_new w3 _)]; rfl
    have hc1 : W3.cell? ⟨w3.heap.size, 1, none⟩ = some (.int .i64 tk) := by rw [hW3, cell_of_row _ _ 1 _ _ _ (heap_alloc_new w3 _)]; rfl
    have hpw4 := hpw3.below hbW
    have hins := Ins_any qs b W3 hpw4.len hpw4.at_ hpw4.use
    rw [hpw4.eq, names_own] at hins
    obtain ⟨U, hU⟩ : ∃ U, U = R.filter fun s => s.kind == 1 := ⟨_, rfl⟩
    rw [← hU] at hins
    have HU : Hid (U = R.filter fun s => s.kind == 1) := hU
    have HPW4 : Hid (PW W3 b qs R) := hpw4
    have hUl : U.length ≤ 24 := by
      rw [hU]
      have h1 := List.length_filter_le (fun s : St => s.kind == 1) R
      have h2 := hpw4.good.prog.len
      omega
    have HNW : Hid (∀ j, j < tk → ¬ WantAt R n j) := hnw
    have HG : Hid (Good R) := hpw4.good
    have hbA : Below w.heap.size w W3 := hb1.trans ((hb2.trans ((hb3.trans (hbW.mono hb3.size)).mono hb2.size)).mono hb1.size)
    clear hrun hTL hO hr2 hpw3 hpw4 hnw hU hB0
    go_wp2_with fail
    rw [← hW3]
    refine hins.mono ?_
    rintro e w4 ⟨⟨nv, rfl, hnv⟩, hb4⟩
    have hpw5 := HPW4.out.below hb4
    have HPW5 : Hid (PW w4 b qs R) := hpw5
    have hs4 := hb4.size
    have d0 : w4.cell? ⟨w3.heap.size, 0, none⟩ = some (.int .i64 en) := by rw [hb4.cell (p := ⟨w3.heap.size, 0, none⟩) (by show w3.heap.size < _; omega)]; exact hc0
    have d1 : w4.cell? ⟨w3.heap.size, 1, none⟩ = some (.int .i64 tk) := by rw [hb4.cell (p := ⟨w3.heap.size, 1, none⟩) (by show w3.heap.size < _; omega)]; exact hc1
    have hnr := Reads.of hnv
    rw [List.length_map] at hnr
    obtain ⟨np, nc, hne, _⟩ := hnr.form
    subst hne
    have HNM : Hid (∀ wr, Below w4.heap.size w4 wr → ∀ k (h : k < U.length), ∃ nb no, np = some ⟨nb, no, none⟩ ∧ nb < wr.heap.size ∧ wr.cell? ⟨nb, no + k, none⟩ = some (.string (S U[k].name))) := fun wr hwr k hk => by
      obtain ⟨nb, no, h1, h2, h3⟩ := hnr.cell (by omega)
      refine ⟨nb, no, h1, Nat.lt_of_lt_of_le h2 hwr.size, ?_⟩
      rw [hwr.cell (p := ⟨nb, no + k, none⟩) h2, h3 k hk]
      rw [strs_get (by rw [List.length_map]; exact hk)]
      simp
    have hbB : Below w.heap.size w w4 := hbA.trans (hb4.mono hbA.size)
    have hwz : w.heap.size ≤ w4.heap.size := hbB.size
    have h3z : w3.heap.size < w4.heap.size := by omega
    have HIN : Hid (∀ k (h : k < U.length), ∃ j : Nat, R[j]? = some U[k] ∧ U[k].kind = 1) := fun k hk => by
      have := HU.out
      subst this
      exact in_get hk
    clear hins hW3 hc0 hc1 hnv hnr hpw5 HPW4 hbW hbA HPW HPW2 hb1 hb2 hb3 hb4 hs4 hsW
    rcases hend with ⟨rfl, rfl⟩ | ⟨rfl, htl, hwant⟩
    · go_wp2
      go_loopw [13, 14, 15, 16] (fun i _ _ _ wr => ∃ k : Nat, i = .int .i64 k ∧ k ≤ U.length ∧ Below w4.heap.size w4 wr) (fun i _ _ _ _ => U.length - (intOf i).toNat)
      case atStart => exact ⟨0, rfl, Nat.zero_le _, Below.refl _ _⟩
      case round =>
        obtain ⟨k, rfl, hk, hnx⟩ := hrel
        have e1 : wr.cell? ⟨w3.heap.size, 1, none⟩ = some (.int .i64 ((200 : Nat) : Int)) := by rw [hnx.cell (p := ⟨w3.heap.size, 1, none⟩) h3z]; exact d1
        by_cases hlt : k < U.length
        · obtain ⟨nb, no, rfl, hnb, cn⟩ := HNM.out wr hnx k hlt
          obtain ⟨j, hj, hk1⟩ := HIN.out k hlt
          obtain ⟨u, hu⟩ : ∃ u, U[k] = u := ⟨_, rfl⟩
          rw [hu] at cn hj hk1
          have hcl := clock_pw (HPW5.out.below hnx) hj (by omega)
          have hon := fun w7 => ones_ck HG.out (List.mem_of_getElem? hj) (by omega) 200 (by decide) w7
          have hle : ones (ckS u) 200 ≤ n := ones_bound fun t ht hq => HNW.out t ht ⟨u, List.mem_of_getElem? hj, hk1, hq.1, hq.2⟩
          obtain ⟨o1, ho1⟩ : ∃ o1, ones (ckS u) 200 = o1 := ⟨_, rfl⟩
          rw [ho1] at hon hle
          clear hj hk1 hu ho1
          go_wp2_with fail
          refine hcl.mono ?_
          rintro e w6 ⟨rfl, hb6⟩
          go_wp2_with fail
          refine (hon _).mono ?_
          rintro e w7 ⟨rfl, hw7⟩
          subst w7
          have hB6 : Below w4.heap.size w4 w6 := hnx.trans (hb6.mono hnx.size)
          clear hcl hon
          go_wp2
          go_roundw
          case rel => exact ⟨k + 1, by go_num, by omega, hB6⟩
          case measure => simp [intOf]; omega
        · have hBf : Below w.heap.size w wr := hbB.trans (hnx.mono hwz)
          have hrz : w3.heap.size < wr.heap.size := by have := hnx.size; omega
          go_wp2
          go_ret
          exact ⟨rfl, hBf⟩
    · have HW : Hid (WantAt R n tk) := hwant
      clear hwant
      go_wp2
      go_loopw [17, 18, 19, 20, 21, 22] (fun sm i _ _ _ _ wr => ∃ (k : Nat) (sb : Bool), i = .int .i64 k ∧ sm = .bool sb ∧ k ≤ U.length ∧ Hid (Sm U n tk k sb) ∧ Below w4.heap.size w4 wr) (fun _ i _ _ _ _ _ => U.length - (intOf i).toNat)
      case atStart => exact ⟨0, false, rfl, rfl, Nat.zero_le _, by show Sm _ _ _ _ _; unfold Sm; constructor <;> intro h; cases h; obtain ⟨j, _, h, _⟩ := h; omega, Below.refl _ _⟩
      case round =>
        obtain ⟨k, sb, rfl, rfl, hk, HS, hnx⟩ := hrel
        have e1 : wr.cell? ⟨w3.heap.size, 1, none⟩ = some (.int .i64 tk) := by rw [hnx.cell (p := ⟨w3.heap.size, 1, none⟩) h3z]; exact d1
        have hrz : w3.heap.size < wr.heap.size := by have := hnx.size; omega
        by_cases hlt : k < U.length
        · obtain ⟨nb, no, rfl, hnb, cn⟩ := HNM.out wr hnx k hlt
          obtain ⟨j, hj, hk1⟩ := HIN.out k hlt
          obtain ⟨u, hu⟩ : ∃ u, U[k] = u := ⟨_, rfl⟩
          rw [hu] at cn hj hk1
          have hcl := clock_pw (HPW5.out.below hnx) hj (by omega)
          have hon := fun w7 => ones_ck HG.out (List.mem_of_getElem? hj) (by omega) tk (by omega) w7
          have hon2 := fun w7 => ones_ck HG.out (List.mem_of_getElem? hj) (by omega) (tk + 1) (by omega) w7
          have hle : ones (ckS u) tk ≤ n := ones_bound fun t ht hq => HNW.out t ht ⟨u, List.mem_of_getElem? hj, hk1, hq.1, hq.2⟩
          obtain ⟨o1, ho1⟩ : ∃ o1, ones (ckS u) tk = o1 := ⟨_, rfl⟩
          obtain ⟨o2, ho2⟩ : ∃ o2, ones (ckS u) (tk + 1) = o2 := ⟨_, rfl⟩
          rw [ho1] at hon hle
          rw [ho2] at hon2
          have HS2 : Hid (Sm U n tk (k + 1) (sb || decide (n < o2))) := by
            have hs0 := HS.out
            show Sm _ _ _ _ _
            unfold Sm at hs0 ⊢
            rw [Bool.or_eq_true, hs0, decide_eq_true_eq]
            constructor
            · rintro (⟨j, h, h1, h2⟩ | h)
              · exact ⟨j, h, by omega, h2⟩
              · exact ⟨k, hlt, by omega, by rw [hu, ho2]; exact h⟩
            · rintro ⟨j, h, h1, h2⟩
              rcases Nat.lt_or_ge j k with q | q
              · exact .inl ⟨j, h, q, h2⟩
              · right
                have : j = k := by omega
                subst this
                rw [hu, ho2] at h2; exact h2
          have hcast : ((tk : Int) + 1) = ((tk + 1 : Nat) : Int) := by omega
          rw [← hcast] at hon2
          clear hj hk1 hu ho1 ho2 hcast
          go_wp2_with fail
          refine hcl.mono ?_
          rintro e w6 ⟨rfl, hb6⟩
          have hB6 : Below w4.heap.size w4 w6 := hnx.trans (hb6.mono hnx.size)
          have e6 : w6.cell? ⟨w3.heap.size, 1, none⟩ = some (.int .i64 tk) := by rw [hB6.cell (p := ⟨w3.heap.size, 1, none⟩) h3z]; exact d1
          have hz6 : w3.heap.size < w6.heap.size := by have := hB6.size; omega
          go_wp2_with fail
          refine (hon _).mono ?_
          rintro e w7 ⟨rfl, hw7⟩
          subst w7
          go_wp2_with fail
          refine (hon2 _).mono ?_
          rintro e w7 ⟨rfl, hw7⟩
          subst w7
          clear hcl hon hon2
          cases sb with
          | true =>
            have HS3 : Hid (Sm U n tk (k + 1) true) := by
              have := HS2.out
              rw [Bool.true_or] at this
              exact this
            clear HS2
            go_wp2
            go_roundw
            case rel => exact ⟨k + 1, true, by go_num, rfl, by omega, HS3, hB6⟩
            case measure => simp [intOf]; omega
          | false =>
            by_cases hno : n < o2
            · have HS3 : Hid (Sm U n tk (k + 1) true) := by
                have := HS2.out
                rw [decide_eq_true hno] at this
                exact this
              clear HS2
              go_wp2
              go_roundw
              case rel => exact ⟨k + 1, true, by go_num, rfl, by omega, HS3, hB6⟩
              case measure => simp [intOf]; omega
            · have HS3 : Hid (Sm U n tk (k + 1) false) := by
                have := HS2.out
                rw [decide_eq_false hno] at this
                exact this
              clear HS2
              go_wp2
              go_roundw
              case rel => exact ⟨k + 1, false, by go_num, rfl, by omega, HS3, hB6⟩
              case measure => simp [intOf]; omega
        · have hsb : sb = true := by
            have hs0 := HS.out
            unfold Sm at hs0
            rw [hs0]
            obtain ⟨s, hs, h1, h2, h3⟩ := HW.out
            have hm : s ∈ U := by rw [HU.out]; exact List.mem_filter.2 ⟨hs, by simpa using h1⟩
            obtain ⟨j, hj, rfl⟩ := List.getElem_of_mem hm
            refine ⟨j, hj, by omega, ?_⟩
            rw [ones, h2]; simp; omega
          subst hsb
          have hpw6 := HPW5.out.below hnx
          have hgiv := given_pw hpw6 (n + 1) a2 (by omega)
          have hcast : ((n + 1 : Nat) : Int) = (n : Int) + 1 := by omega
          rw [hcast] at hgiv
          have HPW6 : Hid (PW wr b qs R) := hpw6
          have e0 : wr.cell? ⟨w3.heap.size, 0, none⟩ = some (.int .i64 ((2 : Nat) : Int)) := by rw [hnx.cell (p := ⟨w3.heap.size, 0, none⟩) h3z]; exact d0
          clear hpw6 hcast HS
          go_wp2_with fail
          refine hgiv.mono ?_
          rintro e w6 ⟨⟨lp2, lc2, rfl, hLL2⟩, hb6⟩
          have hpw7 := HPW6.out.below hb6
          have hrun2 := run_pw hpw7 lp2 lc2 200 (cntL R 1) (gLs a2 (n + 1) (cntL R 1)) (gLs_len _ _ _) hLL2 (by decide) (gLs_len _ _ _)
          clear hgiv hLL2 hpw7
          go_wp2_with fail
          refine hrun2.mono ?_
          rintro e w8 ⟨⟨X2, hO2, ov2, mv2, vs2, B2, en2, tk2, us2, hB02, hr22, rfl, hTL2⟩, hb8⟩
          obtain ⟨_, htk2, hnw2, hend2⟩ := run_nil HG.out hO2 gLs_each (gLs_len _ _ _) (by decide) hr22
          have hgt : tk < tk2 := by
            rcases hend2 with ⟨_, h⟩ | ⟨_, _, s, hs, h1, h2, h3⟩
            · omega
            · rcases Nat.lt_or_ge tk tk2 with q | q
              · exact q
              · exfalso
                have : ones (ckS s) tk2 ≤ n := ones_bound fun t ht hq => HNW.out t (by omega) ⟨s, hs, h1, hq.1, hq.2⟩
                omega
          obtain ⟨op2, on2, oc2, hoe2⟩ := own_isSlice hTL2.outs
          subst hoe2
          obtain ⟨mp2, mn2, mc2, hme2⟩ := own_isSlice hTL2.most
          subst hme2
          have hB8 : Below wr.heap.size wr w8 := hb6.trans (hb8.mono hb6.size)
          have f0 : w8.cell? ⟨w3.heap.size, 0, none⟩ = some (.int .i64 ((2 : Nat) : Int)) := by rw [hB8.cell (p := ⟨w3.heap.size, 0, none⟩) hrz]; exact e0
          have f1 : w8.cell? ⟨w3.heap.size, 1, none⟩ = some (.int .i64 tk) := by rw [hB8.cell (p := ⟨w3.heap.size, 1, none⟩) hrz]; exact e1
          have hz8 : w3.heap.size < w8.heap.size := by have := hB8.size; omega
          have hBf : Below w.heap.size w w8 := hbB.trans ((hnx.trans (hB8.mono hnx.size)).mono hwz)
          have hgt2 : (tk : Int) < (tk2 : Int) := by omega
          clear hrun2 hTL2 hO2 hr22 hnw2 hend2 hgt
          go_wp2
          go_ret
          exact ⟨rfl, hBf.alloc hBf.size _⟩

set_option maxRecDepth 100000 in
theorem lifted (os : Os) (started : os.Started) (H : Type) (enc : TypeId × Value → H) :
    ReturnsInHanded {} Try.checked os 5 .any (Rows.asksSpec.pre6 enc Try.prog Try.f5 Rows.asksRow.domain false) (Rows.asksSpec.post enc Try.prog Try.f5 false true false false) := by
  refine returnsInHanded_of_change (C := Try.checked) own started (by kernel_rfl) Try.func5
    (ChangeSpec.witness6 (enc := enc) (C := Try.checked) false ⟨#[], #[.string ByteArray.empty, .int .i64 0, .int .i64 0], []⟩ 8 (by kernel_rfl) (by kernel_rfl) (by kernel_rfl) (by kernel_rfl)) ?_
  intro W base args ds gs before hval0 hW hcnd _
  have hval : ∀ (j : Nat) t v, Try.f5.params[j]? = some t → args[j]? = some v → Value.okWide Try.prog W .any base t v := hval0
  have hW' := hW
  obtain ⟨p, q, hA0, hV, rfl, hfz, hnd⟩ := hW
  have hA : DataW.TrodAll enc Try.prog W 0 (fun _ => true) true Try.f5.params.toList args.toList ds p := hA0
  rw [Try.params5] at hA hval
  obtain ⟨v0, vs0, d0, ds0, p0, q0, hargs, rfl, rfl, h0, r0⟩ := trodAll_cons hA
  obtain ⟨v1, vs1, d1, ds1, p1, q1, rfl, rfl, rfl, h1, r1⟩ := trodAll_cons r0
  obtain ⟨v2, vs2, d2, ds2, p2, q2, rfl, rfl, rfl, h2, r2⟩ := trodAll_cons r1
  obtain ⟨rfl, rfl, rfl⟩ := trodAll_nil r2
  obtain rfl : args = #[v0, v1, v2] := by cases args; simp_all
  obtain ⟨rfl, rfl⟩ := trodVars_none hV
  obtain ⟨a0, rfl, rfl, rfl, w0⟩ := open_string Try.underlying9 (hval 0 9 v0 rfl rfl) h0
  obtain ⟨a1, rfl, rfl, rfl, w1⟩ := open_int Try.underlying3 (hval 1 3 v1 rfl rfl) h1
  obtain ⟨a2, rfl, rfl, rfl, w2⟩ := open_int Try.underlying3 (hval 2 3 v2 rfl rfl) h2
  clear hA0 hval0
  simp only [List.append_nil] at hW'
  refine (walk a0 a1 a2 w0 w1 w2 W).mono fun e W' ⟨he, hb⟩ => ?_
  subst he
  exact ⟨_, rfl, _, _, _, [], [], [], hW', trodAll_cons_mk (shut_bool Try.underlying4 _) trodAll_mk0, (trodAll_cons_mk (shut_string Try.underlying9 w0) (trodAll_cons_mk (shut_int Try.underlying3 w1) (trodAll_cons_mk (shut_int Try.underlying3 w2) trodAll_mk0))), rfl, hb.frame _, fun h => by cases h⟩

theorem over : Rows.asksRow.holds Try.pinned (OpenSpec.ofChange Rows.asksSpec) :=
  OpenClaim.holds_of_wide 5 Try.f5 rfl rfl rfl rfl rfl rfl rfl ⟨rfl, rfl, rfl, rfl, rfl⟩ rfl rfl rfl rfl rfl (by kernel_rfl) Try.func5 (by kernel_rfl)
    (of_decide_eq_true (by kernel_rfl)) (by unfold Func.isWrapper; first | (rw [if_pos (by decide +kernel)]; kernel_rfl) | (rw [if_neg (by decide +kernel)]; exact ⟨rfl, rfl⟩))
    (fun os started H enc _ => lifted os started H enc)

end Go.Proofs.Ytfbkjopidjojeab.asks
namespace Go.Proofs.Ytfbkjopidjojeab
/-- The statement. -/
theorem asks_holds : Rows.AsksSaid := asks.over
#print axioms asks_holds
end Go.Proofs.Ytfbkjopidjojeab

