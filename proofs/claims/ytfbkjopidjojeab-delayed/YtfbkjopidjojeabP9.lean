/-
  Joined: Ha Hb Hc.
-/
import Derived.Test.YtfbkjopidjojeabP8
import Derived.Test.YtfbkjopidjojeabP4
import Derived.Test.YtfbkjopidjojeabP5
namespace Go.Proofs.Ytfbkjopidjojeab
open Go.RowKit

set_option maxRecDepth 50000 in
set_option maxHeartbeats 1000000 in
theorem pRun_gen (qs : List (St × Value)) (R : List St) (b : Nat) (p lp zp : Option Addr) (cap lc zc ticks n : Nat) (Ls : List (List Int)) (Zs : List Int) (w : World) (hqn : qs.length = n) (hl : n ≤ 24) (hcb : w.cell? ⟨b, 0, none⟩ = some (.slice p n cap)) (hbw : b < w.heap.size) (hr : RS w p qs) (hLb : Ls.length ≤ 1048576) (hZb : Zs.length ≤ 1048576)
    (hL : LL w (.slice lp Ls.length lc) Ls) (hZ : Reads w (.slice zp Zs.length zc) 1 Zs.length (zs Zs)) (hR : qs.map Prod.fst = R) (hg : Good R) (hnc : NoCk R) (ht : ticks ≤ 4096)
    (href : ∀ w1, Below w.heap.size w w1 → Calls Try.prog 46 #[.slice p n cap, .slice lp Ls.length lc, .int .i64 ticks, .slice zp Zs.length zc] w1 fun e w' => e = .returned (.int .i64 0) ∧ w' = w1) :
    Calls Try.prog 15 #[.pointer (some ⟨b, 0, none⟩), .slice lp Ls.length lc, .int .i64 ticks, .slice zp Zs.length zc] w fun e w' => RunIs w.heap.size R Ls Zs ticks e w' ∧ Below w.heap.size w w' := by
  have hR1 := R1_r w
  have hRs := R1_size w
  have hRb := R1_below w
  have hcall := Run_gen qs R p lp zp cap lc zc ticks n Ls Zs (R1 w) hqn hl (hr.below hRb (Nat.le_refl _)) hLb hZb (hL.below hRb (Nat.le_refl _)) (hZ.below hRb (Nat.le_refl _)) hR hg hnc ht (fun w1 h1 => href w1 (hRb.trans (h1.mono (by rw [hRs]; omega))))
  clear href hL hZ hr hR hg hnc hqn
  go_enter Try.func15, Try.ntmps15
  go_wp2_with fail
  refine hcall.mono ?_
  rintro e w9 ⟨⟨X, HO, ov, mv, vs, BB, en, tk, us, hBB, hrun, rfl, hTL⟩, hb9⟩
  obtain ⟨op, on, oc, hoe⟩ := own_isSlice hTL.outs
  subst hoe
  obtain ⟨mp, mn, mc, hme⟩ := own_isSlice hTL.most
  subst hme
  have hz9 := hb9.size
  rw [hRs] at hz9
  have hRr := hR1.below hb9 (by rw [hRs]; omega)
  obtain ⟨r0, r1, r2, r3, f0, f1, f2, f3⟩ := hRr.c
  have HTL : Hid (TLo BB w9 (.slice op on oc) (.slice mp mn mc) vs _ _) := hTL
  have HBB : Hid (w.heap.size < BB) := by show w.heap.size < BB; rw [hRs] at hBB; omega
  have HRUN : Hid (runL X ticks 0 (beginL R Ls Zs) = (en, tk, us)) := hrun
  have HORD : Hid (OrdOk R X) := HO
  clear hTL hrun HO
  go_wp2
  have hset := hRr.set en tk (.slice op on oc) (.slice mp mn mc)
  have q := fun j => cell_of_row _ _ j _ _ _ hset
  have q0 := q 0
  have q1 := q 1
  have q2 := q 2
  have q3 := q 3
  simp only [List.getElem?_toArray, List.getElem?_cons_zero, List.getElem?_cons_succ] at q0 q1 q2 q3
  refine bodyPost_ret (v := .tuple #[.agg #[.int .i64 en, .int .i64 tk, .slice op on oc, .slice mp mn mc], .int .i64 0]) (by simp [results, Try.results15, go_sem, q0, q1, q2, q3]) rfl ⟨?_, ?_⟩
  · exact ⟨X, HORD.out, _, _, vs, BB, _, _, _, Nat.le_of_lt HBB.out, HRUN.out, rfl, (((HTL.out.set HBB.out 0 _).set HBB.out 1 _).set HBB.out 2 _).set HBB.out 3 _⟩
  · exact (((((hRb.trans (hb9.mono (by rw [hRs]; omega))).setCell (Nat.le_refl _) _).setCell (Nat.le_refl _) _).setCell (Nat.le_refl _) _).setCell (Nat.le_refl _) _)

theorem pRun_nil (qs : List (St × Value)) (R : List St) (b : Nat) (p lp : Option Addr) (cap lc ticks : Nat) (Ls : List (List Int)) (w : World) (hl : qs.length ≤ 24) (hcb : w.cell? ⟨b, 0, none⟩ = some (.slice p qs.length cap)) (hbw : b < w.heap.size) (hr : RS w p qs)
    (hL : LL w (.slice lp Ls.length lc) Ls) (hR : qs.map Prod.fst = R) (hg : Good R) (hnc : NoCk R) (ht : ticks ≤ 4096) (hLc : Ls.length = cntL R 1) :
    Calls Try.prog 15 #[.pointer (some ⟨b, 0, none⟩), .slice lp Ls.length lc, .int .i64 ticks, .slice none 0 0] w fun e w' => RunIs w.heap.size R Ls [] ticks e w' ∧ Below w.heap.size w w' := by
  have hcn := cnt_le R 1
  have hRl : R.length = qs.length := by rw [← hR]; simp
  refine pRun_gen qs R b p lp none cap lc 0 ticks qs.length Ls [] w rfl hl hcb hbw hr (by omega) (by simp) hL (Reads.nil w) hR hg hnc ht (fun w1 h1 => ?_)
  have := refuse_nil qs p lp cap lc Ls.length ticks w1 hl (hr.below h1 (Nat.le_refl _))
  rw [hR] at this
  have e : refuseL R Ls.length ticks none = 0 := by
    unfold refuseL
    rw [if_neg (by simpa using hLc), if_neg (by omega)]
  rw [e] at this
  exact this
theorem pRun_zs (qs : List (St × Value)) (R : List St) (b : Nat) (p lp : Option Addr) (za : Addr) (cap lc zc ticks : Nat) (Ls : List (List Int)) (Zs : List Int) (w : World) (hl : qs.length ≤ 24) (hcb : w.cell? ⟨b, 0, none⟩ = some (.slice p qs.length cap)) (hbw : b < w.heap.size) (hr : RS w p qs)
    (hL : LL w (.slice lp Ls.length lc) Ls) (hR : qs.map Prod.fst = R) (hg : Good R) (hnc : NoCk R) (ht : ticks ≤ 4096) (hLc : Ls.length = cntL R 1) (hZ : Reads w (.slice (some za) Zs.length zc) 1 Zs.length (zs Zs)) (hZc : Zs.length = cntL R 12) (hzs : ∀ z ∈ Zs, 0 ≤ z ∧ z ≤ 1048576) :
    Calls Try.prog 15 #[.pointer (some ⟨b, 0, none⟩), .slice lp Ls.length lc, .int .i64 ticks, .slice (some za) Zs.length zc] w fun e w' => RunIs w.heap.size R Ls Zs ticks e w' ∧ Below w.heap.size w w' := by
  have hcn := cnt_le R 1
  have hcz := cnt_le R 12
  have hRl : R.length = qs.length := by rw [← hR]; simp
  refine pRun_gen qs R b p lp (some za) cap lc zc ticks qs.length Ls Zs w rfl hl hcb hbw hr (by omega) (by omega) hL hZ hR hg hnc ht (fun w1 h1 => ?_)
  exact refuse_ok qs p lp za cap lc zc Ls.length Zs ticks w1 hl (hr.below h1 (Nat.le_refl _)) (by rw [hR]; exact hLc) (by omega) (by omega) (by rw [hR]; exact hZc) (hZ.below h1 (Nat.le_refl _)) hzs
end Go.Proofs.Ytfbkjopidjojeab

namespace Go.Proofs.Ytfbkjopidjojeab
open Go.RowKit

/-- The program that a text is, reckoned. -/
def compC (t : List UInt8) : Option (List St) := match sourceL t with
  | .error _ => none
  | .ok ls => if (twF ls).1 = 0 then match linkL ls ls with
      | .error _ => none
      | .ok qs => if (List.range qs.length).all (fun k => closedL qs (reachL qs k (qs.length + 1))) && decide ((firstF 9 qs (hangC qs)).1 = 0) then match solveL (qs.length + 1) (qs.map give) with
          | .error _ => none
          | .ok rs => if (firstF 10 rs (badFit rs)).1 = 0 then some rs else none
        else none
    else none
theorem compC_ok {t : List UInt8} {rs : List St} (h : compC t = some rs) : compF t = .ok rs := by
  unfold compC at h
  unfold compF
  cases hs : sourceL t with
  | error g => rw [hs] at h; cases h
  | ok ls =>
    rw [hs] at h
    simp only at h ⊢
    unfold makeF
    split at h
    · rename_i h1
      rw [if_pos h1]
      cases hl : linkL ls ls with
      | error g => rw [hl] at h; cases h
      | ok qs =>
        rw [hl] at h
        simp only at h ⊢
        split at h
        · rename_i hc
          rw [Bool.and_eq_true, decide_eq_true_eq] at hc
          obtain ⟨hc, h2⟩ := hc
          have hf : firstF 9 qs (hangB qs) = firstF 9 qs (hangC qs) := firstF_congr fun k hk => hang_c (List.all_eq_true.1 hc k (List.mem_range.2 hk))
          rw [hf, if_pos h2]
          cases hv : solveL (qs.length + 1) (qs.map give) with
          | error g => rw [hv] at h; cases h
          | ok ts =>
            rw [hv] at h
            simp only at h ⊢
            split at h
            · rename_i h3
              rw [if_pos h3]
              injection h with h
              rw [h]
            · cases h
        · cases h
    · cases h

def recB : ByteArray := { data := (([105, 110, 32, 120, 32, 40, 49, 41, 10, 105, 110, 32, 121, 32, 40, 49, 41, 10, 97, 32, 61, 32, 97, 100, 100, 32, 120, 32, 121, 10, 115, 32, 61, 32, 115, 117, 98, 32, 120, 32, 121, 10, 109, 32, 61, 32, 109, 117, 108, 32, 120, 32, 121, 10, 100, 32, 61].append [32, 100, 105, 118, 32, 120, 32, 121, 10, 108, 32, 61, 32, 108, 101, 115, 115, 32, 120, 32, 121, 10, 103, 32, 61, 32, 108, 101, 115, 115, 32, 121, 32, 120, 10, 105, 32, 61, 32, 105, 102, 32, 108, 32, 121, 32, 120, 10, 113, 32, 61, 32, 109, 117, 108, 32, 100]).append ([32, 121, 10, 114, 32, 61, 32, 115, 117, 98, 32, 120, 32, 113, 10, 122, 32, 61, 32, 99, 111, 110, 115, 116, 32, 48, 32, 40, 49, 41, 10, 107, 32, 61, 32, 115, 117, 98, 32, 122, 32, 121, 10, 111, 32, 61, 32, 109, 117, 108, 32, 120, 32, 107, 10, 117, 32].append [61, 32, 97, 100, 100, 32, 111, 32, 109, 10, 111, 117, 116, 32, 97, 10, 111, 117, 116, 32, 115, 10, 111, 117, 116, 32, 100, 10, 111, 117, 116, 32, 108, 10, 111, 117, 116, 32, 103, 10, 111, 117, 116, 32, 105, 10, 111, 117, 116, 32, 114, 10, 111, 117, 116, 32, 117])).toArray }
def recS : List St := [⟨1, 1, [120], [], 0, ([], [true]), ([], [true])⟩,
  ⟨2, 1, [121], [], 0, ([], [true]), ([], [true])⟩,
  ⟨3, 3, [97], [0, 1], 0, ([], []), ([], [true])⟩,
  ⟨4, 4, [115], [0, 1], 0, ([], []), ([], [true])⟩,
  ⟨5, 5, [109], [0, 1], 0, ([], []), ([], [true])⟩,
  ⟨6, 6, [100], [0, 1], 0, ([], []), ([], [true])⟩,
  ⟨7, 7, [108], [0, 1], 0, ([], []), ([], [true])⟩,
  ⟨8, 7, [103], [1, 0], 0, ([], []), ([], [true])⟩,
  ⟨9, 8, [105], [6, 1, 0], 0, ([], []), ([], [true])⟩,
  ⟨10, 5, [113], [5, 1], 0, ([], []), ([], [true])⟩,
  ⟨11, 4, [114], [0, 9], 0, ([], []), ([], [true])⟩,
  ⟨12, 2, [122], [], 0, ([], [true]), ([], [true])⟩,
  ⟨13, 4, [107], [11, 1], 0, ([], []), ([], [true])⟩,
  ⟨14, 5, [111], [0, 12], 0, ([], []), ([], [true])⟩,
  ⟨15, 3, [117], [13, 4], 0, ([], []), ([], [true])⟩,
  ⟨16, 13, [], [2], 0, ([], []), ([], [])⟩,
  ⟨17, 13, [], [3], 0, ([], []), ([], [])⟩,
  ⟨18, 13, [], [5], 0, ([], []), ([], [])⟩,
  ⟨19, 13, [], [6], 0, ([], []), ([], [])⟩,
  ⟨20, 13, [], [7], 0, ([], []), ([], [])⟩,
  ⟨21, 13, [], [8], 0, ([], []), ([], [])⟩,
  ⟨22, 13, [], [10], 0, ([], []), ([], [])⟩,
  ⟨23, 13, [], [14], 0, ([], []), ([], [])⟩]
theorem rec_comp : compF recB.data.toList = .ok recS := compC_ok (by kernel_rfl)

/-- A step that has made one number. -/
def Has (us : List Tk) (k : Nat) (v : Int) : Prop := ∃ x, us[k]? = some x ∧ x.made = [v]
theorem has_of {ts us : List Tk} (h : Ticked 0 ts us) {k : Nat} {x : Tk} (hx : ts[k]? = some x) (hm : x.made = []) (hb : x.bit 0 = true) : Has us k (nextL us x) := by
  refine ⟨_, h.each k x hx, ?_⟩
  show x.made ++ _ = _
  rw [hm, hb]; rfl
theorem Has.used {us : List Tk} {j : Nat} {v : Int} (h : Has us j v) {s : St} {i : Nat} (hs : s.uses[i]? = some j) : usedL us s i 0 = v := by
  obtain ⟨x, h1, h2⟩ := h
  unfold usedL
  rw [madeAt_of hs h1, h2]; rfl
theorem Has.madeAt {us : List Tk} {j : Nat} {v : Int} (h : Has us j v) {s : St} {i : Nat} (hs : s.uses[i]? = some j) : Go.Proofs.Ytfbkjopidjojeab.madeAt us s i = [v] := by
  obtain ⟨x, h1, h2⟩ := h
  rw [madeAt_of hs h1, h2]
/-- What each step makes. -/
def recV (a b : Int) : List Int := [a, b, wr (a + b), wr (a - b), wr (a * b), quoL a b, lesL a b, lesL b a, (if lesL a b ≠ 0 then b else a), wr (quoL a b * b), wr (a - wr (quoL a b * b)), 0, wr (0 - b), wr (a * wr (0 - b)), wr (wr (a * wr (0 - b)) + wr (a * b))]
def recO (a b : Int) : List (List Int) := [[wr (a + b)], [wr (a - b)], [quoL a b], [lesL a b], [lesL b a], [if lesL a b ≠ 0 then b else a], [wr (a - wr (quoL a b * b))], [wr (wr (a * wr (0 - b)) + wr (a * b))]]

set_option maxRecDepth 100000 in
theorem rec_run {X : List Nat} (ho : OrdOk recS X) (a b : Int) : ∃ us, runL X 1 0 (beginL recS [[a], [b]] []) = (1, 1, us) ∧ outsOf us us = recO a b := by
  have hg := comp_good rec_comp
  have h0 : At recS 0 (beginL recS [[a], [b]] []) := begin_at _ _ _
  have hn : noteL (beginL recS [[a], [b]] []) 0 = beginL recS [[a], [b]] [] := by rfl
  have ht := tick_ticked h0 ho hg.prog hg.named hg.clk
  have hat := ht.at h0
  refine ⟨tickL 0 (beginL recS [[a], [b]] []) X, ?_, ?_⟩
  · rw [runL, if_neg (by intro e; revert e; exact Bool.noConfusion), if_neg (by intro e; revert e; exact Bool.noConfusion), runL, hn]
  · rw [outs_st hat.st]
    generalize tickL 0 (beginL recS [[a], [b]] []) X = us at ht
    have v0 : Has us 0 (a) := has_of ht (k := 0) rfl rfl rfl
    have v1 : Has us 1 (b) := has_of ht (k := 1) rfl rfl rfl
    have v2 : Has us 2 (wr (a + b)) := by
      have h : Has us 2 (wr (usedL us recS[2] 0 0 + usedL us recS[2] 1 0)) := has_of ht (k := 2) rfl rfl rfl
      rw [v0.used (s := recS[2]) (i := 0) rfl, v1.used (s := recS[2]) (i := 1) rfl] at h
      exact h
    have v3 : Has us 3 (wr (a - b)) := by
      have h : Has us 3 (wr (usedL us recS[3] 0 0 - usedL us recS[3] 1 0)) := has_of ht (k := 3) rfl rfl rfl
      rw [v0.used (s := recS[3]) (i := 0) rfl, v1.used (s := recS[3]) (i := 1) rfl] at h
      exact h
    have v4 : Has us 4 (wr (a * b)) := by
      have h : Has us 4 (wr (usedL us recS[4] 0 0 * usedL us recS[4] 1 0)) := has_of ht (k := 4) rfl rfl rfl
      rw [v0.used (s := recS[4]) (i := 0) rfl, v1.used (s := recS[4]) (i := 1) rfl] at h
      exact h
    have v5 : Has us 5 (quoL a b) := by
      have h : Has us 5 (quoL (usedL us recS[5] 0 0) (usedL us recS[5] 1 0)) := has_of ht (k := 5) rfl rfl rfl
      rw [v0.used (s := recS[5]) (i := 0) rfl, v1.used (s := recS[5]) (i := 1) rfl] at h
      exact h
    have v6 : Has us 6 (lesL a b) := by
      have h : Has us 6 (lesL (usedL us recS[6] 0 0) (usedL us recS[6] 1 0)) := has_of ht (k := 6) rfl rfl rfl
      rw [v0.used (s := recS[6]) (i := 0) rfl, v1.used (s := recS[6]) (i := 1) rfl] at h
      exact h
    have v7 : Has us 7 (lesL b a) := by
      have h : Has us 7 (lesL (usedL us recS[7] 0 0) (usedL us recS[7] 1 0)) := has_of ht (k := 7) rfl rfl rfl
      rw [v1.used (s := recS[7]) (i := 0) rfl, v0.used (s := recS[7]) (i := 1) rfl] at h
      exact h
    have v8 : Has us 8 ((if lesL a b ≠ 0 then b else a)) := by
      have h : Has us 8 ((if usedL us recS[8] 0 0 ≠ 0 then usedL us recS[8] 1 0 else usedL us recS[8] 2 0)) := has_of ht (k := 8) rfl rfl rfl
      rw [v6.used (s := recS[8]) (i := 0) rfl, v1.used (s := recS[8]) (i := 1) rfl, v0.used (s := recS[8]) (i := 2) rfl] at h
      exact h
    have v9 : Has us 9 (wr (quoL a b * b)) := by
      have h : Has us 9 (wr (usedL us recS[9] 0 0 * usedL us recS[9] 1 0)) := has_of ht (k := 9) rfl rfl rfl
      rw [v5.used (s := recS[9]) (i := 0) rfl, v1.used (s := recS[9]) (i := 1) rfl] at h
      exact h
    have v10 : Has us 10 (wr (a - wr (quoL a b * b))) := by
      have h : Has us 10 (wr (usedL us recS[10] 0 0 - usedL us recS[10] 1 0)) := has_of ht (k := 10) rfl rfl rfl
      rw [v0.used (s := recS[10]) (i := 0) rfl, v9.used (s := recS[10]) (i := 1) rfl] at h
      exact h
    have v11 : Has us 11 (0) := has_of ht (k := 11) rfl rfl rfl
    have v12 : Has us 12 (wr (0 - b)) := by
      have h : Has us 12 (wr (usedL us recS[12] 0 0 - usedL us recS[12] 1 0)) := has_of ht (k := 12) rfl rfl rfl
      rw [v11.used (s := recS[12]) (i := 0) rfl, v1.used (s := recS[12]) (i := 1) rfl] at h
      exact h
    have v13 : Has us 13 (wr (a * wr (0 - b))) := by
      have h : Has us 13 (wr (usedL us recS[13] 0 0 * usedL us recS[13] 1 0)) := has_of ht (k := 13) rfl rfl rfl
      rw [v0.used (s := recS[13]) (i := 0) rfl, v12.used (s := recS[13]) (i := 1) rfl] at h
      exact h
    have v14 : Has us 14 (wr (wr (a * wr (0 - b)) + wr (a * b))) := by
      have h : Has us 14 (wr (usedL us recS[14] 0 0 + usedL us recS[14] 1 0)) := has_of ht (k := 14) rfl rfl rfl
      rw [v13.used (s := recS[14]) (i := 0) rfl, v4.used (s := recS[14]) (i := 1) rfl] at h
      exact h
    show [madeAt us recS[15] 0, madeAt us recS[16] 0, madeAt us recS[17] 0, madeAt us recS[18] 0, madeAt us recS[19] 0, madeAt us recS[20] 0, madeAt us recS[21] 0, madeAt us recS[22] 0] = recO a b
    rw [v2.madeAt (s := recS[15]) (i := 0) rfl, v3.madeAt (s := recS[16]) (i := 0) rfl, v5.madeAt (s := recS[17]) (i := 0) rfl, v6.madeAt (s := recS[18]) (i := 0) rfl, v7.madeAt (s := recS[19]) (i := 0) rfl, v8.madeAt (s := recS[20]) (i := 0) rfl, v10.madeAt (s := recS[21]) (i := 0) rfl, v14.madeAt (s := recS[22]) (i := 0) rfl]
    rfl
end Go.Proofs.Ytfbkjopidjojeab

namespace Go.Proofs.Ytfbkjopidjojeab
open Go.RowKit

/-- A number of 64 bits. -/
def I64 (a : Int) : Prop := -9223372036854775808 ≤ a ∧ a < 9223372036854775808
theorem ar_sum {a b : Int} (ha : I64 a) : wrap64 (wr (a + b) - b) = a := by unfold I64 at ha; unfold wr wrap64; omega
theorem ar_dif {a b : Int} (ha : I64 a) : wrap64 (wr (a - b) + b) = a := by unfold I64 at ha; unfold wr wrap64; omega
theorem wr_neg (b : Int) : ∃ k : Int, wr (0 - b) = -b - 18446744073709551616 * k := by
  refine ⟨(0 - b + 9223372036854775808) / 18446744073709551616, ?_⟩
  unfold wr wrap64; omega
theorem ar_mul (a b : Int) : wr (wr (a * wr (0 - b)) + wr (a * b)) = 0 := by
  obtain ⟨k, hk⟩ := wr_neg b
  have e : a * wr (0 - b) = -(a * b) - 18446744073709551616 * (a * k) := by
    rw [hk, Int.mul_sub, Int.mul_neg, Int.mul_left_comm]
  rw [e]
  generalize a * b = P
  generalize a * k = Q
  unfold wr wrap64; omega
theorem tmod_facts (a b : Int) (hb : b ≠ 0) : (a.tmod b = 0 ∨ (a.tmod b < 0 ↔ a < 0)) ∧ (a.tmod b).natAbs < b.natAbs := by
  have hn : (a.tmod b).natAbs = a.natAbs % b.natAbs := Int.natAbs_tmod a b
  refine ⟨?_, by rw [hn]; exact Nat.mod_lt _ (by omega)⟩
  rcases Int.lt_or_le a 0 with h | h
  · have h2 : 0 ≤ (-a).tmod b := Int.tmod_nonneg b (by omega)
    rw [Int.neg_tmod] at h2
    rcases Int.lt_or_le (a.tmod b) 0 with q | q
    · right; exact ⟨fun _ => h, fun _ => q⟩
    · left; omega
  · have h2 : 0 ≤ a.tmod b := Int.tmod_nonneg b h
    rcases Int.lt_or_le 0 (a.tmod b) with q | q
    · right; exact ⟨fun _ => by omega, fun _ => by omega⟩
    · left; omega
theorem quo_form {a b : Int} (hb : b ≠ 0) : ∃ K : Int, quoL a b * b = (a - a.tmod b) - 18446744073709551616 * K := by
  unfold quoL
  rw [if_neg hb]
  have e := Int.mul_tdiv_add_tmod a b
  refine ⟨(a.tdiv b + 9223372036854775808) / 18446744073709551616 * b, ?_⟩
  have e2 : wr (a.tdiv b) = a.tdiv b - 18446744073709551616 * ((a.tdiv b + 9223372036854775808) / 18446744073709551616) := by unfold wr wrap64; omega
  rw [e2, Int.sub_mul, Int.mul_assoc]
  have e3 : a.tdiv b * b = a - a.tmod b := by rw [Int.mul_comm]; omega
  rw [e3]
theorem ar_rem {a b : Int} (hbr : I64 b) (hb : b ≠ 0) : wr (a - wr (quoL a b * b)) = a.tmod b := by
  obtain ⟨K, hK⟩ := quo_form (a := a) hb
  have h2 := (tmod_facts a b hb).2
  unfold I64 at hbr
  rw [hK]
  generalize a.tmod b = r at *
  unfold wr wrap64; omega
theorem ar_quo {a b : Int} (ha : I64 a) (hb : b ≠ 0) : wrap64 (wrap64 (quoL a b * b) + a.tmod b) = a := by
  obtain ⟨K, hK⟩ := quo_form (a := a) hb
  unfold I64 at ha
  rw [hK]
  generalize a.tmod b = r at *
  unfold wrap64; omega
theorem ar_zero {a : Int} (ha : I64 a) : wr (a - wr (quoL a 0 * 0)) = a := by
  rw [Int.mul_zero]; unfold I64 at ha; unfold wr wrap64; omega

set_option maxRecDepth 50000 in
set_option maxHeartbeats 400000 in
theorem smaller_any (m b : Int) (w : World) (hb : I64 b) (hm : m.natAbs < b.natAbs) :
    Calls Try.prog 29 #[.int .i64 m, .int .i64 b] w fun e w' => e = .returned (.bool true) ∧ w' = w := by
  unfold I64 at hb
  by_cases h1 : 0 < m
  · have hw1 : wrap64 (-m) = -m := by unfold wrap64; omega
    by_cases h2 : 0 < b
    · have hw2 : wrap64 (-b) = -b := by unfold wrap64; omega
      go_enter Try.func29, Try.ntmps29
      go_wp2
      go_ret
      exact ⟨ret_bool (by simp; omega), rfl⟩
    · go_enter Try.func29, Try.ntmps29
      go_wp2
      go_ret
      exact ⟨ret_bool (by simp; omega), rfl⟩
  · by_cases h2 : 0 < b
    · have hw2 : wrap64 (-b) = -b := by unfold wrap64; omega
      go_enter Try.func29, Try.ntmps29
      go_wp2
      go_ret
      exact ⟨ret_bool (by simp; omega), rfl⟩
    · go_enter Try.func29, Try.ntmps29
      go_wp2
      go_ret
      exact ⟨ret_bool (by simp; omega), rfl⟩

/-- What comes out, and what must be so of it. -/
structure RecV (a b : Int) (V : List Int) : Prop where
  len : V.length = 8
  r0 : wrap64 (V.getD 0 0 - b) = a
  r1 : wrap64 (V.getD 1 0 + b) = a
  r7 : V.getD 7 0 = 0
  r3 : V.getD 3 0 = if a < b then 1 else 0
  r4 : V.getD 4 0 = if b < a then 1 else 0
  r5 : V.getD 5 0 = if a < b then b else a
  z2 : b = 0 → V.getD 2 0 = 0
  z6 : b = 0 → V.getD 6 0 = a
  q2 : b ≠ 0 → wrap64 (wrap64 (V.getD 2 0 * b) + V.getD 6 0) = a
  q6 : b ≠ 0 → (V.getD 6 0 = 0 ∨ (V.getD 6 0 < 0 ↔ a < 0)) ∧ (V.getD 6 0).natAbs < b.natAbs
/-- The numbers that come out of Reckoned. -/
def recU (a b : Int) : List Int := [wr (a + b), wr (a - b), quoL a b, lesL a b, lesL b a, if lesL a b ≠ 0 then b else a, wr (a - wr (quoL a b * b)), wr (wr (a * wr (0 - b)) + wr (a * b))]
theorem recO_map (a b : Int) : recO a b = (recU a b).map fun z => [z] := rfl
theorem rec_v {a b : Int} (ha : I64 a) (hb : I64 b) : RecV a b (recU a b) := by
  refine ⟨rfl, ar_sum ha, ar_dif ha, ar_mul a b, rfl, rfl, ?_, fun h => ?_, fun h => ?_, fun h => ?_, fun h => ?_⟩
  · show (if lesL a b ≠ 0 then b else a) = _
    unfold lesL
    by_cases h : a < b
    · rw [if_pos h, if_pos (by decide), if_pos h]
    · rw [if_neg h, if_neg (by decide), if_neg h]
  · show quoL a b = 0
    unfold quoL; rw [if_pos h]
  · subst h; exact ar_zero ha
  · show wrap64 (wrap64 (quoL a b * b) + wr (a - wr (quoL a b * b))) = a
    rw [ar_rem hb h]; exact ar_quo ha h
  · show (wr (a - wr (quoL a b * b)) = 0 ∨ _) ∧ _
    have e : List.getD (recU a b) 6 0 = a.tmod b := ar_rem hb h
    rw [e, ar_rem hb h]
    exact tmod_facts a b h
end Go.Proofs.Ytfbkjopidjojeab

