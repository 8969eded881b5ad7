/-
  Joined: Longer.
-/
import Derived.Test.YtfbkjopidjojeabRows
import Derived.Test.YtfbkjopidjojeabPJ
import Derived.WalkKit
import Derived.ProofKit
import Derived.OpenShut
import Derived.ShutString
namespace Go.Proofs.Ytfbkjopidjojeab.longer
open Go.ChangeShapes Go.WideShapes Go.ChangeAt Go.RowKit
open Go.ChangeMaps (open_string shut_string)

theorem own : ownKnob Try.prog.godebug = none := by kernel_rfl

/-- A list that came out, where it lies. -/
theorem out_row {w : World} {op : Option Addr} {on oc : Nat} {O : List (List Int)} (h : LL w (.slice op on oc) O) {k : Nat} (hk : k < O.length) : on = O.length ∧ ∃ ob oo vp vc, op = some ⟨ob, oo, none⟩ ∧ ob < w.heap.size ∧ w.cell? ⟨ob, oo + k, none⟩ = some (.slice vp O[k].length vc) ∧ Reads w (.slice vp O[k].length vc) 1 O[k].length (zs O[k]) := by
  obtain ⟨vs, h1, h2, h3⟩ := h
  have hon : on = O.length := by
    obtain ⟨_, q, c', he, _, _⟩ := h2
    injection he
  obtain ⟨ob, oo, h4, h5, h6⟩ := h2.cell (by omega)
  have hkv : k < vs.length := by omega
  have hr := h3 k hkv hk
  obtain ⟨vp, vc, hve, _⟩ := hr.form
  refine ⟨hon, ob, oo, vp, vc, h4, h5, ?_, by rw [← hve]; exact hr⟩
  rw [h6 k hk, List.getElem?_eq_getElem hkv, hve]

set_option maxRecDepth 100000 in
set_option maxRecDepth 50000 in
set_option maxHeartbeats 8000000 in
theorem walk (a0 : ByteArray) (a1 a2 a3 : Int) (w0 : a0.size ≤ maxLen) (w1 : (Lit.int .i64 a1).wf = true) (w2 : (Lit.int .i64 a2).wf = true) (_w3 : (Lit.int .i64 a3).wf = true) (w : World) :
    Calls Try.prog 4 #[.string a0, .int .i64 a1, .int .i64 a2, .int .i64 a3] w fun e w' => e = .returned (.bool true) ∧ Below w.heap.size w w' := by
  have hread := read_any a0 w w0
  have hpick := fun w5 => kpick_any a1 41 w5 w1 (by decide) (by decide)
  have hpick2 := fun w5 => kpick_any a2 41 w5 w2 (by decide) (by decide)
  clear w0 w1 w2
  go_enter Try.func4, Try.ntmps4
  go_wp2_with fail
  refine hread.mono ?_
  rintro e w1 ⟨hR, hb1⟩
  rcases hR with ⟨f, _, rfl⟩ | ⟨qs, v, b, hqs, rfl, hBb, hcell, hsteps⟩
  · clear hread hpick hpick2
    go_wp2
    go_ret
    exact ⟨rfl, hb1⟩
  · have hpw := read_pw hqs hcell hsteps
    obtain ⟨R, hRe⟩ : ∃ R, qs.map Prod.fst = R := ⟨_, rfl⟩
    rw [hRe] at hpw
    have HPW : Hid (PW w1 b qs R) := hpw
    have HG : Hid (Good R) := hpw.good
    clear hread hqs hcell hsteps hpw hRe hBb
    go_wp2_with fail
    refine (hpick w1).mono ?_
    rintro e w9 ⟨⟨n, rfl, hn⟩, hw9⟩
    subst w9
    go_wp2_with fail
    refine (hpick2 w1).mono ?_
    rintro e w9 ⟨⟨d, rfl, hd⟩, hw9⟩
    subst w9
    obtain ⟨m, hm⟩ : ∃ m, m = n + d := ⟨_, rfl⟩
    have hmc : (n : Int) + (d : Int) = (m : Int) := by omega
    have hnm : n ≤ m := by omega
    have hm80 : m ≤ 80 := by omega
    clear hm hd
    have hgiv := given_pw HPW.out 90 a3 (by decide)
    clear hpick hpick2
    go_wp2_with fail
    refine hgiv.mono ?_
    rintro e w2 ⟨⟨lp, lc, rfl, hLL⟩, hb2⟩
    have hpw2 := HPW.out.below hb2
    have hgiv2 := given_pw hpw2 120 a3 (by decide)
    clear hgiv
    go_wp2_with fail
    refine hgiv2.mono ?_
    rintro e w3 ⟨⟨lp2, lc2, rfl, hLL2⟩, hb3⟩
    have hpw3 := hpw2.below hb3
    have hLLa := hLL.below hb3 (Nat.le_refl _)
    have hrun := run_pw hpw3 lp lc n (cntL R 1) (gLs a3 90 (cntL R 1)) (gLs_len _ _ _) hLLa (by omega) (gLs_len _ _ _)
    clear hgiv2 hLL hpw2
    go_wp2_with fail
    refine hrun.mono ?_
    rintro e w4 ⟨⟨X1, hO1, ov1, mv1, vs1, B1, en1, tk1, us1, _, hr1, rfl, hTL1⟩, hb4⟩
    obtain ⟨hus1, _, _, hend1⟩ := run_nil HG.out hO1 gLs_each (gLs_len _ _ _) (by omega) hr1
    have he1 : en1 = 1 ∧ tk1 = n := by
      rcases hend1 with h | ⟨_, h, hw⟩
      · exact h
      · exact absurd hw (want_never (by omega))
    obtain ⟨rfl, rfl⟩ := he1
    obtain ⟨op1, on1, oc1, hoe⟩ := own_isSlice hTL1.outs
    subst hoe
    obtain ⟨mp1, mn1, mc1, hme⟩ := own_isSlice hTL1.most
    subst hme
    have hLo1 := hTL1.ll.1
    obtain ⟨W4, hW4⟩ : ∃ W4, W4 = w4.alloc (Obj.cells #[.int .i64 1, .int .i64 tk1, .slice op1 on1 oc1, .slice mp1 mn1 mc1] 40) := ⟨_, rfl⟩
    have hbW4 : Below w4.heap.size w4 W4 := by rw [hW4]; exact (Below.refl _ _).alloc (Nat.le_refl _) _
    have hsW4 : W4.heap.size = w4.heap.size + 1 := by rw [hW4]; simp
    have hA : ∀ j, W4.cell? ⟨w4.heap.size, j, none⟩ = [Value.int .i64 1, .int .i64 tk1, .slice op1 on1 oc1, .slice mp1 mn1 mc1][j]? := fun j => by rw [hW4, cell_of_row _ _ j _ _ _ (heap_alloc_new w4 _)]; simp
    have hB4 : Below w3.heap.size w3 W4 := hb4.trans (hbW4.mono hb4.size)
    have hpw4 := hpw3.below hB4
    have hrunb := run_pw hpw4 lp lc m (cntL R 1) (gLs a3 90 (cntL R 1)) (gLs_len _ _ _) (hLLa.below hB4 (Nat.le_refl _)) (by omega) (gLs_len _ _ _)
    clear hrun hTL1 hr1 hend1
    go_wp2_with fail
    rw [← hW4]
    refine hrunb.mono ?_
    rintro e w5 ⟨⟨X2, hO2, ov2, mv2, vs2, B2, en2, tk2, us2, _, hr2, rfl, hTL2⟩, hb5⟩
    obtain ⟨hus2, _, _, hend2⟩ := run_nil HG.out hO2 gLs_each (gLs_len _ _ _) (by omega) hr2
    have he2 : en2 = 1 ∧ tk2 = m := by
      rcases hend2 with h | ⟨_, h, hw⟩
      · exact h
      · exact absurd hw (want_never (by omega))
    obtain ⟨rfl, rfl⟩ := he2
    obtain ⟨op2, on2, oc2, hoe⟩ := own_isSlice hTL2.outs
    subst hoe
    obtain ⟨mp2, mn2, mc2, hme⟩ := own_isSlice hTL2.most
    subst hme
    have hLo2 := hTL2.ll.1
    obtain ⟨W5, hW5⟩ : ∃ W5, W5 = w5.alloc (Obj.cells #[.int .i64 1, .int .i64 tk2, .slice op2 on2 oc2, .slice mp2 mn2 mc2] 40) := ⟨_, rfl⟩
    have hbW5 : Below w5.heap.size w5 W5 := by rw [hW5]; exact (Below.refl _ _).alloc (Nat.le_refl _) _
    have hsW5 : W5.heap.size = w5.heap.size + 1 := by rw [hW5]; simp
    have hA2 : ∀ j, W5.cell? ⟨w5.heap.size, j, none⟩ = [Value.int .i64 1, .int .i64 tk2, .slice op2 on2 oc2, .slice mp2 mn2 mc2][j]? := fun j => by rw [hW5, cell_of_row _ _ j _ _ _ (heap_alloc_new w5 _)]; simp
    have hB5 : Below W4.heap.size W4 W5 := hb5.trans (hbW5.mono hb5.size)
    have hpw5 := hpw4.below hB5
    have hrunc := run_pw hpw5 lp2 lc2 tk2 (cntL R 1) (gLs a3 120 (cntL R 1)) (gLs_len _ _ _) (hLL2.below (hB4.trans (hB5.mono hB4.size)) (Nat.le_refl _)) (by omega) (gLs_len _ _ _)
    clear hrunb hTL2 hr2 hend2
    go_wp2_with fail
    rw [← hW5]
    refine hrunc.mono ?_
    rintro e w6 ⟨⟨X3, hO3, ov3, mv3, vs3, B3, en3, tk3, us3, _, hr3, rfl, hTL3⟩, hb6⟩
    obtain ⟨hus3, _, _, hend3⟩ := run_nil HG.out hO3 gLs_each (gLs_len _ _ _) (by omega) hr3
    have he3 : en3 = 1 ∧ tk3 = tk2 := by
      rcases hend3 with h | ⟨_, h, hw⟩
      · exact h
      · exact absurd hw (want_never (by omega))
    obtain ⟨rfl, rfl⟩ := he3
    obtain ⟨op3, on3, oc3, hoe⟩ := own_isSlice hTL3.outs
    subst hoe
    obtain ⟨mp3, mn3, mc3, hme⟩ := own_isSlice hTL3.most
    subst hme
    have hLo3 := hTL3.ll.1
    obtain ⟨W6, hW6⟩ : ∃ W6, W6 = w6.alloc (Obj.cells #[.int .i64 1, .int .i64 tk3, .slice op3 on3 oc3, .slice mp3 mn3 mc3] 40) := ⟨_, rfl⟩
    have hbW6 : Below w6.heap.size w6 W6 := by rw [hW6]; exact (Below.refl _ _).alloc (Nat.le_refl _) _
    have hsW6 : W6.heap.size = w6.heap.size + 1 := by rw [hW6]; simp
    have hA3 : ∀ j, W6.cell? ⟨w6.heap.size, j, none⟩ = [Value.int .i64 1, .int .i64 tk3, .slice op3 on3 oc3, .slice mp3 mn3 mc3][j]? := fun j => by rw [hW6, cell_of_row _ _ j _ _ _ (heap_alloc_new w6 _)]; simp
    have hB6 : Below W5.heap.size W5 W6 := hb6.trans (hbW6.mono hb6.size)
    have hpw6 := hpw5.below hB6
    have hB46 : Below W4.heap.size W4 W6 := hB5.trans (hB6.mono hB5.size)
    have z4 := hb4.size
    have z5 := hb5.size
    have z6 := hb6.size
    have hat1 := (sim_at HG.out hO1 (begin_at R (gLs a3 90 (cntL R 1)) []) tk1).st
    have hat2 := (sim_at HG.out hO2 (begin_at R (gLs a3 90 (cntL R 1)) []) tk3).st
    have hat3 := (sim_at HG.out hO3 (begin_at R (gLs a3 120 (cntL R 1)) []) tk3).st
    have hmath := longer_math HG.out hO1 hO2 hO3 a3 tk1 tk3 hnm (by omega)
    rw [← hus1] at hat1
    rw [← hus2] at hat2
    rw [← hus3] at hat3
    rw [← hus1, ← hus2, ← hus3] at hmath
    rw [outs_q HG.out.named hat1] at hLo1
    rw [outs_q HG.out.named hat2] at hLo2
    rw [outs_q HG.out.named hat3] at hLo3
    have hlen1 : ∀ (s u : St) (j : Nat), s.uses[0]? = some j → R[j]? = some u → (madeAt us1 s 0).length = ones (ckS u) tk1 := fun s u j h1 h2 => by
      rw [hus1]; exact sim_madeLen HG.out hO1 (begin_at R _ []) tk1 h1 h2
    have hlen2 : ∀ (s u : St) (j : Nat), s.uses[0]? = some j → R[j]? = some u → (madeAt us2 s 0).length = ones (ckS u) tk3 := fun s u j h1 h2 => by
      rw [hus2]; exact sim_madeLen HG.out hO2 (begin_at R _ []) tk3 h1 h2
    have HL1 : Hid (LL W6 (.slice op1 on1 oc1) ((outQ R).map fun s => madeAt us1 s 0)) := (hLo1.below hbW4 (Nat.le_refl _)).below hB46 (Nat.le_refl _)
    have HL2 : Hid (LL W6 (.slice op2 on2 oc2) ((outQ R).map fun s => madeAt us2 s 0)) := (hLo2.below hbW5 (Nat.le_refl _)).below hB6 (Nat.le_refl _)
    have HL3 : Hid (LL W6 (.slice op3 on3 oc3) ((outQ R).map fun s => madeAt us3 s 0)) := hLo3.below hbW6 (Nat.le_refl _)
    have HMA : Hid (∀ s : St, madeAt us1 s 0 <+: madeAt us2 s 0 ∧ madeAt us2 s 0 = madeAt us3 s 0) := hmath
    have HLE1 : Hid (∀ (s u : St) (j : Nat), s.uses[0]? = some j → R[j]? = some u → (madeAt us1 s 0).length = ones (ckS u) tk1) := hlen1
    have HLE2 : Hid (∀ (s u : St) (j : Nat), s.uses[0]? = some j → R[j]? = some u → (madeAt us2 s 0).length = ones (ckS u) tk3) := hlen2
    have a12 : W6.cell? ⟨w4.heap.size, 2, none⟩ = some (.slice op1 on1 oc1) := by rw [hB46.cell (p := ⟨w4.heap.size, 2, none⟩) (by show w4.heap.size < _; omega)]; exact hA 2
    have a22 : W6.cell? ⟨w5.heap.size, 2, none⟩ = some (.slice op2 on2 oc2) := by rw [hB6.cell (p := ⟨w5.heap.size, 2, none⟩) (by show w5.heap.size < _; omega)]; exact hA2 2
    have a32 : W6.cell? ⟨w6.heap.size, 2, none⟩ = some (.slice op3 on3 oc3) := hA3 2
    have hBw6 : Below W4.heap.size W4 w6 := hB5.trans (hb6.mono hB5.size)
    have c10 : w6.cell? ⟨w4.heap.size, 0, none⟩ = some (.int .i64 1) := by rw [hBw6.cell (p := ⟨w4.heap.size, 0, none⟩) (by show w4.heap.size < _; omega)]; exact hA 0
    have c11 : w6.cell? ⟨w4.heap.size, 1, none⟩ = some (.int .i64 tk1) := by rw [hBw6.cell (p := ⟨w4.heap.size, 1, none⟩) (by show w4.heap.size < _; omega)]; exact hA 1
    have c20 : w6.cell? ⟨w5.heap.size, 0, none⟩ = some (.int .i64 1) := by rw [hb6.cell (p := ⟨w5.heap.size, 0, none⟩) (by show w5.heap.size < _; omega)]; exact hA2 0
    have c21 : w6.cell? ⟨w5.heap.size, 1, none⟩ = some (.int .i64 tk3) := by rw [hb6.cell (p := ⟨w5.heap.size, 1, none⟩) (by show w5.heap.size < _; omega)]; exact hA2 1
    have k4 : w4.heap.size < w6.heap.size := by omega
    have k5 : w5.heap.size < w6.heap.size := by omega
    have hbz : Below w.heap.size w W6 := hb1.trans ((hb2.trans ((hb3.trans ((hB4.trans (hB46.mono hB4.size)).mono hb3.size)).mono hb2.size)).mono hb1.size)
    have q4 : w4.heap.size < W6.heap.size := by omega
    have q5 : w5.heap.size < W6.heap.size := by omega
    have q6 : w6.heap.size < W6.heap.size := by omega
    have HPW6 : Hid (PW W6 b qs R) := hpw6
    have hon1 : on1 = (outQ R).length := by
      obtain ⟨vsx, hx1, ⟨_, q, c', he, _, _⟩, _⟩ := HL1.out
      injection he with _ he _
      rw [he, List.length_map]
    have hon2 : on2 = (outQ R).length := by
      obtain ⟨vsx, hx1, ⟨_, q, c', he, _, _⟩, _⟩ := HL2.out
      injection he with _ he _
      rw [he, List.length_map]
    have hon3 : on3 = (outQ R).length := by
      obtain ⟨vsx, hx1, ⟨_, q, c', he, _, _⟩, _⟩ := HL3.out
      injection he with _ he _
      rw [he, List.length_map]
    have houts := Outs_any qs b W6 hpw6.len hpw6.at_ hpw6.use
    rw [hpw6.eq, names_q] at houts
    clear hrunc hTL3 hr3 hend3 hmath hlen1 hlen2 hLo1 hLo2 hLo3 hat1 hat2 hat3 hus1 hus2 hus3 hO1 hO2 hO3 hpw3 hpw4 hpw5 hpw6 hLLa hLL2 hA hA2 hA3 hBw6 hbW4 hbW5 hB4 hB5 hB6 hB46 HPW hb1 hb2 hb3 hb4 hb5 hb6 hbW6
    obtain ⟨Q, hQ⟩ : ∃ Q, Q = outQ R := ⟨_, rfl⟩
    rw [← hQ] at houts hon1 hon2 hon3 HL1 HL2 HL3
    have hQl : Q.length ≤ 24 := by
      rw [hQ]
      have h1 := List.length_filter_le (fun s : St => s.kind == 13) R
      have h2 := HG.out.prog.len
      unfold outQ
      omega
    have HOF : Hid (∀ (i : Nat) (h : i < Q.length), ∃ (j : Nat) (u : St), Q[i].uses[0]? = some j ∧ R[j]? = some u ∧ u.kind ≠ 13 ∧ nameL R Q[i] = u.name) := by
      subst hQ
      exact fun i hi => out_facts HG.out.named hi
    subst hon1
    have e2 : on2 = Q.length := hon2
    have e3 : on3 = Q.length := hon3
    subst e2
    subst e3
    clear hQ hon2 hon3
    go_wp2_with fail
    rw [← hW6]
    refine houts.mono ?_
    rintro e w7 ⟨⟨nv, rfl, hnv⟩, hb7⟩
    have hnr := Reads.of hnv
    rw [List.length_map] at hnr
    obtain ⟨np, nc, hne, _⟩ := hnr.form
    subst hne
    have hs7 := hb7.size
    have HNM : Hid (∀ wr, Below w7.heap.size w7 wr → ∀ k (h : k < Q.length), ∃ nb no, np = some ⟨nb, no, none⟩ ∧ nb < wr.heap.size ∧ wr.cell? ⟨nb, no + k, none⟩ = some (.string (S (nameL R Q[k])))) := fun wr hwr k hk => by
      obtain ⟨nb, no, h1, h2, h3⟩ := hnr.cell (by omega)
      refine ⟨nb, no, h1, Nat.lt_of_lt_of_le h2 hwr.size, ?_⟩
      rw [hwr.cell (p := ⟨nb, no + k, none⟩) h2, h3 k hk]
      rw [strs_get (by rw [List.length_map]; exact hk)]
      simp
    have HB7 : Hid (∀ wr, Below w7.heap.size w7 wr → Below W6.heap.size W6 wr) := fun wr h => hb7.trans (h.mono hs7)
    have b10 : w7.cell? ⟨w4.heap.size, 2, none⟩ = some (.slice op1 Q.length oc1) := by rw [hb7.cell (p := ⟨w4.heap.size, 2, none⟩) q4]; exact a12
    have b20 : w7.cell? ⟨w5.heap.size, 2, none⟩ = some (.slice op2 Q.length oc2) := by rw [hb7.cell (p := ⟨w5.heap.size, 2, none⟩) q5]; exact a22
    have b30 : w7.cell? ⟨w6.heap.size, 2, none⟩ = some (.slice op3 Q.length oc3) := by rw [hb7.cell (p := ⟨w6.heap.size, 2, none⟩) q6]; exact a32
    have r4 : w4.heap.size < w7.heap.size := by omega
    have r5 : w5.heap.size < w7.heap.size := by omega
    have r6 : w6.heap.size < w7.heap.size := by omega
    clear houts hnv hnr hW6 hW5 hW4
    go_wp2
    go_loopw [20, 21, 22, 23, 24, 25] (fun i _ _ _ _ _ wr => ∃ k : Nat, i = .int .i64 k ∧ k ≤ Q.length ∧ Below w7.heap.size w7 wr) (fun i _ _ _ _ _ _ => Q.length - (intOf i).toNat)
    case atStart => exact ⟨0, rfl, Nat.zero_le _, Below.refl _ _⟩
    case round =>
      obtain ⟨k, rfl, hk, hnx⟩ := hrel
      by_cases hlt : k < Q.length
      · obtain ⟨nb, no, rfl, hnb, cn⟩ := HNM.out wr hnx k hlt
        obtain ⟨j, u, hj0, hj, h13, hnm2⟩ := HOF.out k hlt
        rw [hnm2] at cn
        have hcl := clock_pw (HPW6.out.below (HB7.out wr hnx)) hj h13
        have hon := fun w9 => ones_ck HG.out (List.mem_of_getElem? hj) h13 tk1 (by omega) w9
        have hl1 := HLE1.out Q[k] u j hj0 hj
        have hl2 := HLE2.out Q[k] u j hj0 hj
        obtain ⟨hp, he⟩ := HMA.out Q[k]
        have ho1 := ones_le (ckS u) tk1
        have ho2 := ones_le (ckS u) tk3
        rw [← hl1] at hon ho1
        rw [← hl2] at ho2
        clear hj0 hj h13 hnm2 hl1 hl2
        go_wp2_with fail
        refine hcl.mono ?_
        rintro e w8 ⟨rfl, hb8⟩
        have hB8 : Below w7.heap.size w7 w8 := hnx.trans (hb8.mono hnx.size)
        have hBB := HB7.out w8 hB8
        obtain ⟨-, ob1, oo1, vp1, vc1, ho1p, hob1, c1, hr1⟩ := out_row (HL1.out.below hBB (Nat.le_refl _)) (k := k) (by rw [List.length_map]; exact hlt)
        obtain ⟨-, ob2, oo2, vp2, vc2, ho2p, hob2, c2, hr2⟩ := out_row (HL2.out.below hBB (Nat.le_refl _)) (k := k) (by rw [List.length_map]; exact hlt)
        obtain ⟨-, ob3, oo3, vp3, vc3, ho3p, hob3, c3, hr3⟩ := out_row (HL3.out.below hBB (Nat.le_refl _)) (k := k) (by rw [List.length_map]; exact hlt)
        simp only [List.getElem_map] at c1 hr1 c2 hr2 c3 hr3
        rw [← he] at c3 hr3
        obtain ⟨L1, hL1⟩ : ∃ L1, madeAt us1 Q[k] 0 = L1 := ⟨_, rfl⟩
        obtain ⟨L2, hL2⟩ : ∃ L2, madeAt us2 Q[k] 0 = L2 := ⟨_, rfl⟩
        rw [hL1] at c1 hr1 hp hon ho1
        rw [hL2] at c2 hr2 c3 hr3 hp ho2
        subst ho1p
        subst ho2p
        subst ho3p
        have x1 : w8.cell? ⟨w4.heap.size, 2, none⟩ = some (.slice (some ⟨ob1, oo1, none⟩) Q.length oc1) := by rw [hB8.cell (p := ⟨w4.heap.size, 2, none⟩) r4]; exact b10
        have x2 : w8.cell? ⟨w5.heap.size, 2, none⟩ = some (.slice (some ⟨ob2, oo2, none⟩) Q.length oc2) := by rw [hB8.cell (p := ⟨w5.heap.size, 2, none⟩) r5]; exact b20
        have x3 : w8.cell? ⟨w6.heap.size, 2, none⟩ = some (.slice (some ⟨ob3, oo3, none⟩) Q.length oc3) := by rw [hB8.cell (p := ⟨w6.heap.size, 2, none⟩) r6]; exact b30
        have hz8 := hB8.size
        have y4 : w4.heap.size < w8.heap.size := by omega
        have y5 : w5.heap.size < w8.heap.size := by omega
        have y6 : w6.heap.size < w8.heap.size := by omega
        have hbeg := begins_pre L1 L2 (.slice vp1 L1.length vc1) (.slice vp2 L2.length vc2) w8.drew (by omega) hr1.drew hr2.drew hp
        have HR2 : Hid (Reads w8 (.slice vp2 L2.length vc2) 1 L2.length (zs L2)) := hr2
        have HR3 : Hid (Reads w8 (.slice vp3 L2.length vc3) 1 L2.length (zs L2)) := hr3
        clear hcl hr1 hr2 hr3 hL1 hL2 he hp cn
        go_wp2
        go_region_held3 (fun w' => w'.cell? ⟨w4.heap.size, 2, none⟩ = some (.slice (some ⟨ob1, oo1, none⟩) Q.length oc1) ∧ w'.cell? ⟨ob1, oo1 + k, none⟩ = some (.slice vp1 L1.length vc1) ∧ w'.cell? ⟨w5.heap.size, 2, none⟩ = some (.slice (some ⟨ob2, oo2, none⟩) Q.length oc2) ∧ w'.cell? ⟨ob2, oo2 + k, none⟩ = some (.slice vp2 L2.length vc2)) (go_keep)
          (first | (go_at_call 18; refine hbeg.mono ?_; rintro e w9 ⟨hK, hb9⟩; subst hK; have hb9' : Below w8.heap.size w8 w9 := below_undrew (W := w8) hb9; have g1 := hb9'.cell (p := ⟨w4.heap.size, 2, none⟩) y4; rw [x1] at g1; have g2 := hb9'.cell (p := ⟨ob1, oo1 + k, none⟩) hob1; rw [c1] at g2; have g3 := hb9'.cell (p := ⟨w5.heap.size, 2, none⟩) y5; rw [x2] at g3; have g4 := hb9'.cell (p := ⟨ob2, oo2 + k, none⟩) hob2; rw [c2] at g4))
        have g5 := hb9'.cell (p := ⟨w6.heap.size, 2, none⟩) y6
        rw [x3] at g5
        have g6 := hb9'.cell (p := ⟨ob3, oo3 + k, none⟩) hob3
        rw [c3] at g6
        have hz9 := hb9'.size
        have t4 : w4.heap.size < w9.heap.size := by omega
        have t5 : w5.heap.size < w9.heap.size := by omega
        have t6 : w6.heap.size < w9.heap.size := by omega
        have s1 : ob1 < w9.heap.size := by omega
        have s2 : ob2 < w9.heap.size := by omega
        have s3 : ob3 < w9.heap.size := by omega
        have hsame := same_eq L2 (.slice vp2 L2.length vc2) (.slice vp3 L2.length vc3) w9.drew (by omega) ((HR2.out.below hb9' (Nat.le_refl _)).drew) ((HR3.out.below hb9' (Nat.le_refl _)).drew)
        clear HR2 HR3 hbeg c1 c2 c3 x1 x2 x3
        go_wp2
        go_region_held3 (fun w' => w'.cell? ⟨w5.heap.size, 2, none⟩ = some (.slice (some ⟨ob2, oo2, none⟩) Q.length oc2) ∧ w'.cell? ⟨ob2, oo2 + k, none⟩ = some (.slice vp2 L2.length vc2) ∧ w'.cell? ⟨w6.heap.size, 2, none⟩ = some (.slice (some ⟨ob3, oo3, none⟩) Q.length oc3) ∧ w'.cell? ⟨ob3, oo3 + k, none⟩ = some (.slice vp3 L2.length vc3)) (go_keep)
          (first | (go_at_call 19; refine hsame.mono ?_; rintro e wA ⟨hK, hbA⟩; subst hK; have hbA' : Below w9.heap.size w9 wA := below_undrew (W := w9) hbA; have g7 := hbA'.cell (p := ⟨w5.heap.size, 2, none⟩) t5; rw [g3] at g7; have g8 := hbA'.cell (p := ⟨ob2, oo2 + k, none⟩) s2; rw [g4] at g8; have g9 := hbA'.cell (p := ⟨w6.heap.size, 2, none⟩) t6; rw [g5] at g9; have gA := hbA'.cell (p := ⟨ob3, oo3 + k, none⟩) s3; rw [g6] at gA))
        have gB := hbA'.cell (p := ⟨w4.heap.size, 2, none⟩) t4
        rw [g1] at gB
        have gC := hbA'.cell (p := ⟨ob1, oo1 + k, none⟩) s1
        rw [g2] at gC
        have hzA := hbA'.size
        have u4 : w4.heap.size < wA.heap.size := by omega
        have v1 : ob1 < wA.heap.size := by omega
        have gD : ((L1.length : Int) != (L1.length : Int)) = false := by simp
        have hBA : Below w7.heap.size w7 wA := hB8.trans ((hb9'.trans (hbA'.mono hb9'.size)).mono hB8.size)
        clear hsame
        go_wp2_with fail
        refine (hon _).mono ?_
        rintro e wC ⟨rfl, hwC⟩
        subst wC
        clear hon
        go_wp2
        go_roundw
        case rel => exact ⟨k + 1, by go_num, by omega, hBA⟩
        case measure => simp [intOf]; omega
      · have hBf : Below w.heap.size w wr := hbz.trans ((HB7.out wr hnx).mono hbz.size)
        go_wp2
        go_ret
        exact ⟨rfl, hBf⟩

set_option maxRecDepth 100000 in
theorem lifted (os : Os) (started : os.Started) (H : Type) (enc : TypeId × Value → H) :
    ReturnsInHanded {} Try.checked os 4 .any (Rows.longerSpec.pre6 enc Try.prog Try.f4 Rows.longerRow.domain false) (Rows.longerSpec.post enc Try.prog Try.f4 false true false false) := by
  refine returnsInHanded_of_change (C := Try.checked) own started (by kernel_rfl) Try.func4
    (ChangeSpec.witness6 (enc := enc) (C := Try.checked) false ⟨#[], #[.string ByteArray.empty, .int .i64 0, .int .i64 0, .int .i64 0], []⟩ 8 (by kernel_rfl) (by kernel_rfl) (by kernel_rfl) (by kernel_rfl)) ?_
  intro W base args ds gs before hval0 hW hcnd _
  have hval : ∀ (j : Nat) t v, Try.f4.params[j]? = some t → args[j]? = some v → Value.okWide Try.prog W .any base t v := hval0
  have hW' := hW
  obtain ⟨p, q, hA0, hV, rfl, hfz, hnd⟩ := hW
  have hA : DataW.TrodAll enc Try.prog W 0 (fun _ => true) true Try.f4.params.toList args.toList ds p := hA0
  rw [Try.params4] at hA hval
  obtain ⟨v0, vs0, d0, ds0, p0, q0, hargs, rfl, rfl, h0, r0⟩ := trodAll_cons hA
  obtain ⟨v1, vs1, d1, ds1, p1, q1, rfl, rfl, rfl, h1, r1⟩ := trodAll_cons r0
  obtain ⟨v2, vs2, d2, ds2, p2, q2, rfl, rfl, rfl, h2, r2⟩ := trodAll_cons r1
  obtain ⟨v3, vs3, d3, ds3, p3, q3, rfl, rfl, rfl, h3, r3⟩ := trodAll_cons r2
  obtain ⟨rfl, rfl, rfl⟩ := trodAll_nil r3
  obtain rfl : args = #[v0, v1, v2, v3] := by cases args; simp_all
  obtain ⟨rfl, rfl⟩ := trodVars_none hV
  obtain ⟨a0, rfl, rfl, rfl, w0⟩ := open_string Try.underlying9 (hval 0 9 v0 rfl rfl) h0
  obtain ⟨a1, rfl, rfl, rfl, w1⟩ := open_int Try.underlying3 (hval 1 3 v1 rfl rfl) h1
  obtain ⟨a2, rfl, rfl, rfl, w2⟩ := open_int Try.underlying3 (hval 2 3 v2 rfl rfl) h2
  obtain ⟨a3, rfl, rfl, rfl, w3⟩ := open_int Try.underlying3 (hval 3 3 v3 rfl rfl) h3
  clear hA0 hval0
  simp only [List.append_nil] at hW'
  refine (walk a0 a1 a2 a3 w0 w1 w2 w3 W).mono fun e W' ⟨he, hb⟩ => ?_
  subst he
  exact ⟨_, rfl, _, _, _, [], [], [], hW', trodAll_cons_mk (shut_bool Try.underlying4 _) trodAll_mk0, (trodAll_cons_mk (shut_string Try.underlying9 w0) (trodAll_cons_mk (shut_int Try.underlying3 w1) (trodAll_cons_mk (shut_int Try.underlying3 w2) (trodAll_cons_mk (shut_int Try.underlying3 w3) trodAll_mk0)))), rfl, hb.frame _, fun h => by cases h⟩

theorem over : Rows.longerRow.holds Try.pinned (OpenSpec.ofChange Rows.longerSpec) :=
  OpenClaim.holds_of_wide 4 Try.f4 rfl rfl rfl rfl rfl rfl rfl ⟨rfl, rfl, rfl, rfl, rfl⟩ rfl rfl rfl rfl rfl (by kernel_rfl) Try.func4 (by kernel_rfl)
    (of_decide_eq_true (by kernel_rfl)) (by unfold Func.isWrapper; first | (rw [if_pos (by decide +kernel)]; kernel_rfl) | (rw [if_neg (by decide +kernel)]; exact ⟨rfl, rfl⟩))
    (fun os started H enc _ => lifted os started H enc)

end Go.Proofs.Ytfbkjopidjojeab.longer
namespace Go.Proofs.Ytfbkjopidjojeab
/-- The statement. -/
theorem longer_holds : Rows.LongerSaid := longer.over
#print axioms longer_holds
end Go.Proofs.Ytfbkjopidjojeab

