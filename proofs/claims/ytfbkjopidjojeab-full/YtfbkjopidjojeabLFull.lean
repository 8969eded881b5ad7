/-
  Joined: Full.
-/
import Derived.Test.YtfbkjopidjojeabRows
import Derived.Test.YtfbkjopidjojeabPK
import Derived.WalkKit
import Derived.ProofKit
import Derived.OpenShut
import Derived.ShutString
namespace Go.Proofs.Ytfbkjopidjojeab.full
open Go.ChangeShapes Go.WideShapes Go.ChangeAt Go.RowKit
open Go.ChangeMaps (open_string shut_string)

theorem own : ownKnob Try.prog.godebug = none := by kernel_rfl

theorem names_buf (R : List St) : namesL R 12 R = (bufQ R).map St.name := by
  unfold namesL bufQ
  apply List.map_congr_left
  intro s hs
  have hk : s.kind = 12 := by simpa using (List.mem_filter.1 hs).2
  unfold nameL
  rw [if_neg (fun e => by omega)]
theorem buf_get {R : List St} {i : Nat} (h : i < (bufQ R).length) : ∃ j : Nat, R[j]? = some (bufQ R)[i] ∧ (bufQ R)[i].kind = 12 := by
  obtain ⟨h1, h2⟩ := bufQ_mem (List.getElem_mem h)
  obtain ⟨j, hj⟩ := List.getElem?_of_mem h1
  exact ⟨j, hj, h2⟩
theorem buf_most {R : List St} (hg : Good R) : ∀ s ∈ bufQ R, Most (inS R s) (ckS s) (mx (inS R s) (ckS s) 900) := by
  intro s hs
  obtain ⟨hm, hk⟩ := bufQ_mem hs
  obtain ⟨hu, ha⟩ := hg.clk.buffer s hm hk
  have hne : s.ck.2 ≠ [] := hg.clk.has s hm (by omega)
  have hmost := most_of (u := (ucL R s 0).1) (x := s.ck.1) (hasC_ne hu) hne (P := (ucL R s 0).2.length * s.ck.2.length) (Nat.dvd_mul_right _ _) (Nat.dvd_mul_left _ _) (Nat.mul_pos (List.length_pos_iff.2 (hasC_ne hu)) (List.length_pos_iff.2 hne)) ha
  have e := size_mx hg hs (z := _) hmost
  rw [← e]; exact hmost
theorem size_pw {w : World} {b : Nat} {qs : List (St × Value)} {R : List St} (h : PW w b qs R) {j : Nat} {s : St} (hj : R[j]? = some s) (h12 : s.kind = 12) :
    Calls Try.prog 23 #[.pointer (some ⟨b, 0, none⟩), .string (S s.name)] w fun e w' => e = .returned (.tuple #[.int .i64 (mx (inS R s) (ckS s) 900), .int .i64 0]) ∧ Below w.heap.size w w' := by
  have hmem : ∀ q ∈ qs, q.1 ∈ R := fun q hq => by rw [← h.eq]; exact List.mem_map.2 ⟨q, hq, rfl⟩
  refine (Size_told qs b (S s.name) w h.len h.at_ h.use (fun q hq hk => ⟨h.good.clk.has _ (hmem q hq) hk, h.good.prog.ok _ (hmem q hq)⟩) (fun q hq x hx hxu => ?_) (fun q hq hk => ?_)).mono ?_
  · obtain ⟨t, ht, hk⟩ := h.good.named.use _ (hmem q hq) x hxu
    have : R[x]? = some qs[x].1 := by rw [← h.eq]; simp [hx]
    rw [ht] at this
    injection this with this
    rw [← this]; exact hk
  · have hl := h.good.named.len _ (hmem q hq)
    rw [hk] at hl
    have hl : q.1.uses.length = 1 := hl
    intro e
    rw [e] at hl
    cases hl
  · rintro e w' ⟨h1, h2⟩
    rw [h.eq] at h1
    exact ⟨(size_own h.good hj h12 h1).1, h2⟩
theorem tlo_below {B : Nat} {wr w' : World} {ov mv : Value} {vs : List Value} {O : List (List Int)} {M : List Int} (h : TLo B wr ov mv vs O M) (hb : Below wr.heap.size wr w') : TLo B w' ov mv vs O M :=
  ⟨ownsRow_below h.outs hb, h.vlen, fun i v L a c => ownsRow_below (h.inn i v L a c) hb, ownsRow_below h.most hb⟩
theorem zs_set (Z : List Int) (k : Nat) (z : Int) : zs (Z.set k z) = (zs Z).set k (.int .i64 z) := by simp [zs, List.map_set]
theorem mx_le (f g : Nat → Bool) (n : Nat) : mx f g n ≤ n := by
  obtain ⟨i, hi, e⟩ := mx_at f g n
  rw [e]
  have := dif_le f g i
  omega
theorem run_zpw {w : World} {b : Nat} {qs : List (St × Value)} {R : List St} (h : PW w b qs R) (lp : Option Addr) (za : Addr) (lc zc ticks m k : Nat) (Ls : List (List Int)) (Zs : List Int) (hm : Ls.length = m) (hk : Zs.length = k) (hL : LL w (.slice lp m lc) Ls) (ht : ticks ≤ 4096) (hLc : Ls.length = cntL R 1)
    (hZ : Reads w (.slice (some za) k zc) 1 k (zs Zs)) (hZc : Zs.length = cntL R 12) (hzs : ∀ z ∈ Zs, 0 ≤ z ∧ z ≤ 1048576) :
    Calls Try.prog 15 #[.pointer (some ⟨b, 0, none⟩), .slice lp m lc, .int .i64 ticks, .slice (some za) k zc] w fun e w' => RunIs w.heap.size R Ls Zs ticks e w' ∧ Below w.heap.size w w' := by
  subst hm
  subst hk
  obtain ⟨p, cap, h1, h2, h3, h4⟩ := h.at_
  exact pRun_zs qs R b p lp za cap lc zc ticks Ls Zs w h.len h1 h2 h4 hL h.eq h.good h.nock ht hLc hZ hZc hzs
theorem zs_cell {w : World} {p : Option Addr} {n c : Nat} {V : List Int} (h : Reads w (.slice p n c) 1 V.length (zs V)) {k : Nat} (hk : k < V.length) : n = V.length ∧ ∃ b off, p = some ⟨b, off, none⟩ ∧ b < w.heap.size ∧ w.cell? ⟨b, off + k, none⟩ = some (.int .i64 V[k]) := by
  have hn : n = V.length := by
    obtain ⟨_, q, c', he, _, _⟩ := h
    injection he
  obtain ⟨b, off, h1, h2, h3⟩ := h.cell (by omega)
  exact ⟨hn, b, off, h1, h2, by rw [h3 k hk, zs_get hk]⟩
/-- A result in a block of its own. -/
def RB (w : World) (c : Nat) (x y : Int) (ov mv : Value) : Prop := c < w.heap.size ∧ w.cell? ⟨c, 0, none⟩ = some (.int .i64 x) ∧ w.cell? ⟨c, 1, none⟩ = some (.int .i64 y) ∧ w.cell? ⟨c, 2, none⟩ = some ov ∧ w.cell? ⟨c, 3, none⟩ = some mv
theorem RB.below {w w' : World} {c : Nat} {x y : Int} {ov mv : Value} (h : RB w c x y ov mv) (hb : Below w.heap.size w w') : RB w' c x y ov mv := by
  obtain ⟨h0, h1, h2, h3, h4⟩ := h
  refine ⟨Nat.lt_of_lt_of_le h0 hb.size, ?_, ?_, ?_, ?_⟩
  · rw [hb.cell (p := ⟨c, 0, none⟩) h0]; exact h1
  · rw [hb.cell (p := ⟨c, 1, none⟩) h0]; exact h2
  · rw [hb.cell (p := ⟨c, 2, none⟩) h0]; exact h3
  · rw [hb.cell (p := ⟨c, 3, none⟩) h0]; exact h4
theorem RB.new (w : World) (x y : Int) (ov mv : Value) : RB (w.alloc (Obj.cells #[.int .i64 x, .int .i64 y, ov, mv] 40)) w.heap.size x y ov mv := by
  refine ⟨by simp, ?_, ?_, ?_, ?_⟩
  · rw [cell_of_row _ _ 0 _ _ _ (heap_alloc_new w _)]; rfl
  · rw [cell_of_row _ _ 1 _ _ _ (heap_alloc_new w _)]; rfl
  · rw [cell_of_row _ _ 2 _ _ _ (heap_alloc_new w _)]; rfl
  · rw [cell_of_row _ _ 3 _ _ _ (heap_alloc_new w _)]; rfl

set_option maxRecDepth 100000 in
set_option maxRecDepth 50000 in
set_option maxHeartbeats 8000000 in
theorem walk (a0 : ByteArray) (a1 a2 : Int) (w0 : a0.size ≤ maxLen) (w1 : (Lit.int .i64 a1).wf = true) (_w2 : (Lit.int .i64 a2).wf = true) (w : World) :
    Calls Try.prog 6 #[.string a0, .int .i64 a1, .int .i64 a2] w fun e w' => e = .returned (.bool true) ∧ Below w.heap.size w w' := by
  obtain ⟨j0, hjI, hyI0, hyI1, hyI2⟩ := info_parts Try.info3
  have hread := read_any a0 w w0
  have hpick := fun (n : Nat) w5 (h : 0 < n) (h' : n ≤ 24) => kpick_any a1 n w5 w1 h (by omega)
  clear w0 w1
  go_enter Try.func6, Try.ntmps6
  go_wp2_with fail
  refine hread.mono ?_
  rintro e w1 ⟨hR, hb1⟩
  rcases hR with ⟨f, _, rfl⟩ | ⟨qs, v, b, hqs, rfl, hBb, hcell, hsteps⟩
  · clear hread hpick
    go_wp2
    go_ret
    exact ⟨rfl, hb1⟩
  · have hpw := read_pw hqs hcell hsteps
    obtain ⟨R, hRe⟩ : ∃ R, qs.map Prod.fst = R := ⟨_, rfl⟩
    rw [hRe] at hpw
    have HG : Hid (Good R) := hpw.good
    have hbuf := Buffers_any qs b w1 hpw.len hpw.at_ hpw.use
    rw [hpw.eq, names_buf] at hbuf
    have HPW : Hid (PW w1 b qs R) := hpw
    obtain ⟨Q, hQ⟩ : ∃ Q, Q = bufQ R := ⟨_, rfl⟩
    rw [← hQ] at hbuf
    have HQ : Hid (Q = bufQ R) := hQ
    have hQl : Q.length ≤ 24 := by
      rw [hQ]
      have h1 := List.length_filter_le (fun s : St => s.kind == 12) R
      have h2 := HG.out.prog.len
      unfold bufQ
      omega
    clear hread hqs hcell hsteps hpw hRe hBb hQ
    go_wp2_with fail
    refine hbuf.mono ?_
    rintro e w2 ⟨⟨nv, rfl, hnv⟩, hb2⟩
    have hnr := Reads.of hnv
    rw [List.length_map] at hnr
    obtain ⟨np, nc, hne, _⟩ := hnr.form
    subst hne
    have HPW2 : Hid (PW w2 b qs R) := HPW.out.below hb2
    have HNM : Hid (∀ wr, Below w2.heap.size w2 wr → ∀ k (h : k < Q.length), ∃ nb no, np = some ⟨nb, no, none⟩ ∧ nb < wr.heap.size ∧ wr.cell? ⟨nb, no + k, none⟩ = some (.string (S Q[k].name))) := fun wr hwr k hk => by
      obtain ⟨nb, no, h1, h2, h3⟩ := hnr.cell (by omega)
      refine ⟨nb, no, h1, Nat.lt_of_lt_of_le h2 hwr.size, ?_⟩
      rw [hwr.cell (p := ⟨nb, no + k, none⟩) h2, h3 k hk]
      rw [strs_get (by rw [List.length_map]; exact hk)]
      simp
    have HIN : Hid (∀ k (h : k < Q.length), ∃ j : Nat, R[j]? = some Q[k] ∧ Q[k].kind = 12) := fun k hk => by
      have := HQ.out
      subst this
      exact buf_get hk
    obtain ⟨Z, hZ⟩ : ∃ Z, Z = Q.map fun s => mx (inS R s) (ckS s) 900 := ⟨_, rfl⟩
    have HZ : Hid (Z = Q.map fun s => mx (inS R s) (ckS s) 900) := hZ
    have hZl : Z.length = Q.length := by rw [hZ, List.length_map]
    have HZL : Hid (Z.length = Q.length) := hZl
    have hbB : Below w.heap.size w w2 := hb1.trans (hb2.mono hb1.size)
    clear hbuf hnv hnr hb1 hb2 HPW hZ hZl
    go_wp2
    go_loopw [10, 11, 12, 13] (fun r i _ _ wr => ∃ (k : Nat) (r1 : Value), i = .int .i64 k ∧ r = r1 ∧ k ≤ Q.length ∧ wr.ownsRow w2.heap.size 3 1 r1 k (zs (Z.take k)) ∧ Below w2.heap.size w2 wr) (fun _ i _ _ _ => Q.length - (intOf i).toNat)
    case atStart => exact ⟨0, _, rfl, rfl, Nat.zero_le _, World.ownsRow_nil _ _ _ _, Below.refl _ _⟩
    case round =>
      obtain ⟨k, rv, rfl, hrv, hk, hown, hnx⟩ := hrel
      replace hrv := hrv.symm
      subst hrv
      have hsz := hnx.size
      by_cases hlt : k < Q.length
      · obtain ⟨nb, no, rfl, hnb, cn⟩ := HNM.out wr hnx k hlt
        obtain ⟨j, hj, hk1⟩ := HIN.out k hlt
        have hcall := size_pw (HPW2.out.below hnx) hj hk1
        have hz0 := mx_nonneg (inS R Q[k]) (ckS Q[k]) 900
        obtain ⟨z, hz⟩ : ∃ z, mx (inS R Q[k]) (ckS Q[k]) 900 = z := ⟨_, rfl⟩
        have HT : Hid (zs (Z.take (k + 1)) = zs (Z.take k) ++ [.int .i64 z]) := by
          show _ = _
          rw [take_one (by rw [HZL.out]; exact hlt), zs_snoc]
          have : Z[k]'(by rw [HZL.out]; exact hlt) = z := by
            have e := HZ.out
            subst e
            rw [List.getElem_map]; exact hz
          rw [this]
        rw [hz] at hcall hz0
        clear hj hk1 hz
        go_wp2_with fail
        refine hcall.mono ?_
        rintro e w3 ⟨rfl, hb3⟩
        have hB3 : Below w2.heap.size w2 w3 := hnx.trans (hb3.mono hsz)
        have hown3 := ownsRow_below hown hb3
        have hz3 := hB3.size
        clear hcall hown
        go_wp2_with (at_builtin; refine wpList_append_own _ rfl _ _ 38 rfl w2.heap.size 3 j0 (.int .i64 0) 1 8 Try.under38 hjI hyI0 hyI1 hyI2 rfl (by decide) _ _ _ rfl (hown3.alloc _) ⟨w3.heap.size, 0, none⟩ 1 1 [.int .i64 z] rfl rfl (cell_one_new _ _ _) (by intro x hx; simp at hx; subst hx; rfl) (by unfold maxLen; omega) (by omega) (by simp; omega) ?_; intro v' w' hown' hgrow _)
        have hb' : Below w2.heap.size w2 w' := (hB3.alloc hz3 _).grown hgrow (by simp; omega) (fun j hj => (hown3.lt j hj).1)
        have hw2 : w'.ownsRow w2.heap.size 3 1 v' (k + 1) (zs (Z.take (k + 1))) := by rw [HT.out]; exact hown'
        clear hown' hgrow hown3
        go_wp2
        go_roundw
        case rel => exact ⟨k + 1, _, by go_num, rfl, by omega, hw2, hb'⟩
        case measure => simp [intOf]; omega
      · have hkq : k = Q.length := by omega
        subst hkq
        have hown2 : wr.ownsRow w2.heap.size 3 1 rv Q.length (zs Z) := by
          have := hown
          rw [List.take_of_length_le (by rw [HZL.out]; exact Nat.le_refl _)] at this
          exact this
        have hpw3 := HPW2.out.below hnx
        have hgiv := given_any qs b 900 a2 wr hpw3.len hpw3.at_ hpw3.use (by decide)
        rw [hpw3.eq, names_cnt] at hgiv
        obtain ⟨rp, rn, rc, hre⟩ := own_isSlice hown2
        have hrn : rn = Q.length := by
          have := Reads.of hown2
          rw [hre] at this
          obtain ⟨_, q, c', he, _, _⟩ := this
          injection he
        subst hrn
        subst hre
        obtain ⟨w3, hw3⟩ : ∃ w3, w3 = wr := ⟨_, rfl⟩
        subst hw3
        have HGW : Hid (∀ g, (Value.slice rp Q.length rc).ownBlock = some g → g < w3.heap.size ∧ w2.heap.size ≤ g) := fun g hg => ⟨(hown2.lt g hg).2, (hown2.lt g hg).1⟩
        clear hown hpw3
        go_wp2_with fail
        refine hgiv.mono ?_
        rintro e w4 ⟨⟨lv, lvs, rfl, hTl⟩, hb4⟩
        have hB4 : Below w2.heap.size w2 w4 := hnx.trans (hb4.mono hsz)
        have hsz4 := hB4.size
        obtain ⟨lp, ln, lc, hle⟩ := own_isSlice hTl.outs
        subst hle
        have hln : ln = cntL R 1 := by
          have := Reads.of hTl.outs
          obtain ⟨_, q, c', he, _, _⟩ := this
          injection he with _ he _
          rw [he, hTl.vlen, gLs_len]
        subst hln
        have hpw4 := HPW2.out.below hB4
        have hrun := run_pw hpw4 lp lc 900 (cntL R 1) (gLs a2 900 (cntL R 1)) (gLs_len _ _ _) hTl.ll.1 (by decide) (gLs_len _ _ _)
        have hown4 := ownsRow_below hown2 hb4
        clear hgiv hown2 hpw4
        go_wp2_with fail
        refine hrun.mono ?_
        rintro e w5 ⟨⟨X1, hO1, ov1, mv1, vs1, B1, en1, tk1, us1, _, hr1, rfl, hTL1⟩, hb5⟩
        obtain ⟨hus1, _, _, hend1⟩ := run_nil HG.out hO1 gLs_each (gLs_len _ _ _) (by decide) hr1
        have he1 : en1 = 1 ∧ tk1 = 900 := by
          rcases hend1 with h | ⟨_, h, hw⟩
          · exact h
          · exact absurd hw (want_never (by omega))
        obtain ⟨rfl, rfl⟩ := he1
        have hmo1 : mostOf us1 = Z := by rw [hus1, most_sim HG.out hO1 900, ← HQ.out, HZ.out]
        rw [hmo1] at hTL1
        have hM1 := hTL1.ll.2
        obtain ⟨op1, on1, oc1, hoe⟩ := own_isSlice hTL1.outs
        subst hoe
        obtain ⟨mp1, mn1, mc1, hme⟩ := own_isSlice hTL1.most
        subst hme
        obtain ⟨W5, hW5⟩ : ∃ W5, W5 = w5.alloc (Obj.cells #[.int .i64 1, .int .i64 900, .slice op1 on1 oc1, .slice mp1 mn1 mc1] 40) := ⟨_, rfl⟩
        have hbW5 : Below w5.heap.size w5 W5 := by rw [hW5]; exact (Below.refl _ _).alloc (Nat.le_refl _) _
        have hRB1 : RB W5 w5.heap.size 1 900 (.slice op1 on1 oc1) (.slice mp1 mn1 mc1) := by rw [hW5]; exact RB.new w5 _ _ _ _
        have hB45 : Below w4.heap.size w4 W5 := hb5.trans (hbW5.mono hb5.size)
        have hown5 := ownsRow_below hown4 hB45
        have hTl5 := tlo_below hTl hB45
        have hB5 : Below w2.heap.size w2 W5 := hB4.trans (hB45.mono hsz4)
        have hsame := same_eq Z (.slice mp1 mn1 mc1) (.slice rp Q.length rc) W5 (by rw [HZL.out]; omega) (hM1.below hbW5 (Nat.le_refl _)) (by rw [HZL.out]; exact Reads.of hown5)
        have hsz5 := hB5.size
        clear hrun hTL1 hr1 hend1 hmo1 hus1 hO1 hM1 hown4 hTl hb5 hbW5 hB45
        go_wp2_with fail
        rw [← hW5]
        refine hsame.mono ?_
        rintro e w6 ⟨rfl, hb6⟩
        obtain ⟨x0, x1, x2, x3, x4⟩ := hRB1.below hb6
        have hown6 := ownsRow_below hown5 hb6
        have hTl6 := tlo_below hTl5 hb6
        have hB6 : Below w2.heap.size w2 w6 := hB5.trans (hb6.mono hsz5)
        have hsz6 := hB6.size
        clear hsame hown5 hTl5 hRB1 hW5
        by_cases hq0 : Q.length = 0
        · have g0 : ((Q.length : Int) == 0) = true := by simp [hq0]
          have hBf : Below w.heap.size w w6 := hbB.trans (hB6.mono hbB.size)
          clear hq0
          go_wp2
          go_ret
          exact ⟨rfl, hBf⟩
        · have g0 : ((Q.length : Int) == 0) = false := by simp; intro e; exact hq0 (by rw [e]; rfl)
          obtain ⟨g, gc, hge⟩ := own_form hown6 (by omega)
          injection hge with e1 _ e3
          subst e1
          subst e3
          obtain ⟨hg3, hg2⟩ := HGW.out g rfl
          have hZc : Z.length = cntL R 12 := by rw [HZL.out, HQ.out]; rfl
          have hzr : ∀ z ∈ Z, 0 ≤ z ∧ z ≤ 900 := fun z hz => by
            rw [HZ.out] at hz
            obtain ⟨s, _, rfl⟩ := List.mem_map.1 hz
            exact ⟨mx_nonneg _ _ _, mx_le _ _ 900⟩
          have hSZ : SzAll R Z := by unfold SzAll; rw [← HQ.out]; exact HZ.out
          have hmost := buf_most HG.out
          have hrun2 := run_zpw (HPW2.out.below hB6) lp ⟨g, 0, none⟩ lc rc 900 (cntL R 1) Q.length (gLs a2 900 (cntL R 1)) Z (gLs_len _ _ _) HZL.out hTl6.ll.1 (by decide) (gLs_len _ _ _) (Reads.of hown6) hZc (fun z hz => by have := hzr z hz; omega)
          have HZC : Hid (Z.length = cntL R 12) := hZc
          have HZR : Hid (∀ z ∈ Z, 0 ≤ z ∧ z ≤ 900) := hzr
          have HSZ : Hid (SzAll R Z) := hSZ
          have HMO : Hid (∀ s ∈ bufQ R, Most (inS R s) (ckS s) (mx (inS R s) (ckS s) 900)) := hmost
          clear hZc hzr hSZ hmost
          go_wp2_with fail
          refine hrun2.mono ?_
          rintro e w7 ⟨⟨X2, hO2, ov2, mv2, vs2, B2, en2, tk2, us2, _, hr2, rfl, hTL2⟩, hb7⟩
          obtain ⟨_, _, hend2⟩ := run_zs HG.out hO2 gLs_each (gLs_len _ _ _) HZC.out (by decide) hr2
          have he2 : en2 = 1 ∧ tk2 = 900 := by
            rcases hend2 with h | ⟨_, h, hw⟩
            · exact h
            · exact absurd hw (over_none HSZ.out HMO.out _)
          obtain ⟨rfl, rfl⟩ := he2
          obtain ⟨op2, on2, oc2, hoe⟩ := own_isSlice hTL2.outs
          subst hoe
          obtain ⟨mp2, mn2, mc2, hme⟩ := own_isSlice hTL2.most
          subst hme
          obtain ⟨W7, hW7⟩ : ∃ W7, W7 = w7.alloc (Obj.cells #[.int .i64 1, .int .i64 900, .slice op2 on2 oc2, .slice mp2 mn2 mc2] 40) := ⟨_, rfl⟩
          have hbW7 : Below w7.heap.size w7 W7 := by rw [hW7]; exact (Below.refl _ _).alloc (Nat.le_refl _) _
          have hB67 : Below w6.heap.size w6 W7 := hb7.trans (hbW7.mono hb7.size)
          have hown7 := ownsRow_below hown6 hB67
          have hTl7 := tlo_below hTl6 hB67
          have hB7 : Below w2.heap.size w2 W7 := hB6.trans (hB67.mono hsz6)
          have hsz7 := hB7.size
          have hpk := hpick Q.length W7 (by omega) hQl
          clear hrun2 hTL2 hr2 hend2 hO2 hown6 hTl6 hB67 hb7 hbW7 x0 x1 x2 x3 x4
          go_wp2_with fail
          rw [← hW7]
          refine hpk.mono ?_
          rintro e w8 ⟨⟨k, rfl, hkQ⟩, hw8⟩
          subst w8
          have hkZ : k < Z.length := by rw [HZL.out]; exact hkQ
          have hsk : (bufQ R)[k]? = some Q[k] := by rw [← HQ.out]; exact List.getElem?_eq_getElem hkQ
          have hzk : Z[k] = mx (inS R Q[k]) (ckS Q[k]) 900 := by
            have e := HZ.out
            subst e
            rw [List.getElem_map]
          have cz : W7.cell? ⟨g, k, none⟩ = some (.int .i64 Z[k]) := by rw [hown7.cellAt k (by omega), zs_get hkZ]
          have fz := hown7.frozenAt k
          have hgz : g < W7.heap.size := (hown7.lt g rfl).2
          obtain ⟨hzr1, hzr2⟩ := HZR.out Z[k] (List.getElem_mem _)
          obtain ⟨z, hz⟩ : ∃ z, Z[k] = z := ⟨_, rfl⟩
          rw [hz] at cz hzr1 hzr2 hzk
          clear hpk hW7 hz
          by_cases hz0 : z = 0
          · have t0 : (z == 0) = true := by simp [hz0]
            have hBf : Below w.heap.size w W7 := hbB.trans (hB7.mono hbB.size)
            clear hz0 hzk
            go_wp2
            go_ret
            exact ⟨rfl, hBf⟩
          · obtain ⟨q, hq⟩ : ∃ q, z = q + 1 := ⟨z - 1, by omega⟩
            subst hq
            have hq0 : 0 ≤ q := by omega
            have hq9 : q < 900 := by omega
            have t0 : ((q + 1) == 0) = false := by simp; omega
            have hq1 : q + 1 - 1 = q := by omega
            have hmx : mx (inS R Q[k]) (ckS Q[k]) 900 - 1 = q := by omega
            have hmz : mx (inS R Q[k]) (ckS Q[k]) 900 ≠ 0 := by omega
            obtain ⟨W8, hW8⟩ : ∃ W8, W8 = W7.setCell ⟨g, k, none⟩ (.int .i64 q) := ⟨_, rfl⟩
            have hown8 : W8.ownsRow w2.heap.size 3 1 (.slice (some ⟨g, 0, none⟩) Q.length rc) Q.length (zs (Z.set k q)) := by
              rw [hW8, zs_set]; exact (hown7.stored k (.int .i64 q)).1
            have hTl8 : TLo w3.heap.size W8 (.slice lp (cntL R 1) lc) (.slice none 0 0) lvs (gLs a2 900 (cntL R 1)) [] := by rw [hW8]; exact hTl7.set hg3 _ _
            have hB8 : Below w2.heap.size w2 W8 := by rw [hW8]; exact hB7.setCell hg2 _
            have hZset : (Z.set k q).length = Q.length := by rw [List.length_set]; exact HZL.out
            have hrun3 := run_zpw (HPW2.out.below hB8) lp ⟨g, 0, none⟩ lc rc 900 (cntL R 1) Q.length (gLs a2 900 (cntL R 1)) (Z.set k q) (gLs_len _ _ _) hZset hTl8.ll.1 (by decide) (gLs_len _ _ _) (Reads.of hown8) (by rw [List.length_set]; exact HZC.out) (fun y hy => by
              rcases List.mem_or_eq_of_mem_set hy with hy | rfl
              · have := HZR.out y hy; omega
              · omega)
            have hsz8 := hB8.size
            have HMX : Hid (mx (inS R Q[k]) (ckS Q[k]) 900 - 1 = q ∧ mx (inS R Q[k]) (ckS Q[k]) 900 ≠ 0 ∧ (bufQ R)[k]? = some Q[k]) := ⟨hmx, hmz, hsk⟩
            clear hz0 hzk hmx hmz hsk hZset hown7 hTl7
            go_wp2_with fail
            rw [← hW8]
            refine hrun3.mono ?_
            rintro e w9 ⟨⟨X3, hO3, ov3, mv3, vs3, B3, en3, tk3, us3, _, hr3, rfl, hTL3⟩, hb9⟩
            obtain ⟨_, hnov, hend3⟩ := run_zs HG.out hO3 gLs_each (gLs_len _ _ _) (by rw [List.length_set]; exact HZC.out) (by decide) hr3
            rw [← HMX.out.1] at hnov hend3
            obtain ⟨h31, htk, hmu, hmv⟩ := full_math HSZ.out HMO.out HMX.out.2.2 HMX.out.2.1 hnov hend3
            rw [HMX.out.1] at hmv
            have hmu2 : mx (inS R Q[k]) (ckS Q[k]) (tk3 + 1) = q + 1 := by have := HMX.out.1; omega
            subst h31
            obtain ⟨op3, on3, oc3, hoe⟩ := own_isSlice hTL3.outs
            subst hoe
            obtain ⟨mp3, mn3, mc3, hme⟩ := own_isSlice hTL3.most
            subst hme
            obtain ⟨W9, hW9⟩ : ∃ W9, W9 = w9.alloc (Obj.cells #[.int .i64 3, .int .i64 tk3, .slice op3 on3 oc3, .slice mp3 mn3 mc3] 40) := ⟨_, rfl⟩
            have hbW9 : Below w9.heap.size w9 W9 := by rw [hW9]; exact (Below.refl _ _).alloc (Nat.le_refl _) _
            have hRB9 : RB W9 w9.heap.size 3 tk3 (.slice op3 on3 oc3) (.slice mp3 mn3 mc3) := by rw [hW9]; exact RB.new w9 _ _ _ _
            have hB89 : Below W8.heap.size W8 W9 := hb9.trans (hbW9.mono hb9.size)
            have hown9 := ownsRow_below hown8 hB89
            have hTl9 := tlo_below hTl8 hB89
            have hB9 : Below w2.heap.size w2 W9 := hB8.trans (hB89.mono hsz8)
            have hsz9 := hB9.size
            have hrun4 := run_pw (HPW2.out.below hB9) lp lc (tk3 + 1) (cntL R 1) (gLs a2 900 (cntL R 1)) (gLs_len _ _ _) hTl9.ll.1 (by omega) (gLs_len _ _ _)
            have hcast : ((tk3 + 1 : Nat) : Int) = (tk3 : Int) + 1 := by omega
            rw [hcast] at hrun4
            clear hrun3 hTL3 hr3 hend3 hnov hO3 hown8 hTl8 hB89 hb9 hbW9 hmu hcast
            go_wp2_with fail
            rw [← hW9]
            refine hrun4.mono ?_
            rintro e wA ⟨⟨X4, hO4, ov4, mv4, vs4, B4, en4, tk4, us4, _, hr4, rfl, hTL4⟩, hbA⟩
            obtain ⟨hus4, _, _, hend4⟩ := run_nil HG.out hO4 gLs_each (gLs_len _ _ _) (by omega) hr4
            have he4 : en4 = 1 ∧ tk4 = tk3 + 1 := by
              rcases hend4 with h | ⟨_, h, hw⟩
              · exact h
              · exact absurd hw (want_never (by omega))
            have hmo4 : mostOf us4 = Q.map fun s => mx (inS R s) (ckS s) (tk3 + 1) := by rw [hus4, most_sim HG.out hO4, ← HQ.out, he4.2]
            rw [hmo4] at hTL4
            have hM4 := hTL4.ll.2
            obtain ⟨op4, on4, oc4, hoe⟩ := own_isSlice hTL4.outs
            subst hoe
            obtain ⟨mp4, mn4, mc4, hme⟩ := own_isSlice hTL4.most
            subst hme
            obtain ⟨hn4, mb4, mo4, hp4, hmb4, cm4⟩ := zs_cell hM4 (k := k) (by rw [List.length_map]; exact hkQ)
            rw [List.length_map] at hn4
            simp only [List.getElem_map] at cm4
            rw [hmu2] at cm4
            subst hn4
            subst hp4
            have hRBA := hRB9.below hbA
            obtain ⟨WA, hWA⟩ : ∃ WA, WA = wA.alloc (Obj.cells #[.int .i64 en4, .int .i64 tk4, .slice op4 on4 oc4, .slice (some ⟨mb4, mo4, none⟩) Q.length mc4] 40) := ⟨_, rfl⟩
            have hbWA : Below wA.heap.size wA WA := by rw [hWA]; exact (Below.refl _ _).alloc (Nat.le_refl _) _
            have hRBu : RB WA wA.heap.size en4 tk4 (.slice op4 on4 oc4) (.slice (some ⟨mb4, mo4, none⟩) Q.length mc4) := by rw [hWA]; exact RB.new wA _ _ _ _
            have hB9A : Below W9.heap.size W9 WA := hbA.trans (hbWA.mono hbA.size)
            have hownA := ownsRow_below hown9 hB9A
            have hTlA := tlo_below hTl9 hB9A
            have hBA : Below w2.heap.size w2 WA := hB9.trans (hB9A.mono hsz9)
            have hszA := hBA.size
            have hRBtA := hRBA.below hbWA
            have hzA : wA.heap.size < WA.heap.size := hRBu.1
            have hmbA : mb4 < WA.heap.size := by omega
            have cm5 : WA.cell? ⟨mb4, mo4 + k, none⟩ = some (.int .i64 (q + 1)) := by rw [hbWA.cell (p := ⟨mb4, mo4 + k, none⟩) hmb4]; exact cm4
            have hrun5 := run_pw (HPW2.out.below hBA) lp lc tk3 (cntL R 1) (gLs a2 900 (cntL R 1)) (gLs_len _ _ _) hTlA.ll.1 (by omega) (gLs_len _ _ _)
            obtain ⟨y0, y1, y2, y3, y4⟩ := hRBA
            clear hrun4 hTL4 hr4 hend4 hO4 hown9 hTl9 hB9A hmo4 hus4 hM4 cm4 hmu2 y4 he4
            go_wp2_with fail
            rw [← hWA]
            refine hrun5.mono ?_
            rintro e wB ⟨⟨X5, hO5, ov5, mv5, vs5, B5, en5, tk5, us5, _, hr5, rfl, hTL5⟩, hbB5⟩
            obtain ⟨hus5, _, _, hend5⟩ := run_nil HG.out hO5 gLs_each (gLs_len _ _ _) (by omega) hr5
            have he5 : en5 = 1 ∧ tk5 = tk3 := by
              rcases hend5 with h | ⟨_, h, hw⟩
              · exact h
              · exact absurd hw (want_never (by omega))
            have hmo5 : mostOf us5 = Q.map fun s => mx (inS R s) (ckS s) tk3 := by rw [hus5, most_sim HG.out hO5, ← HQ.out, he5.2]
            rw [hmo5] at hTL5
            have hM5 := hTL5.ll.2
            obtain ⟨op5, on5, oc5, hoe⟩ := own_isSlice hTL5.outs
            subst hoe
            obtain ⟨mp5, mn5, mc5, hme⟩ := own_isSlice hTL5.most
            subst hme
            obtain ⟨hn5, mb5, mo5, hp5, hmb5, cm6⟩ := zs_cell hM5 (k := k) (by rw [List.length_map]; exact hkQ)
            rw [List.length_map] at hn5
            simp only [List.getElem_map] at cm6
            subst hn5
            subst hp5
            obtain ⟨mq, hmq⟩ : ∃ mq, mx (inS R Q[k]) (ckS Q[k]) tk3 = mq := ⟨_, rfl⟩
            rw [hmq] at cm6 hmv
            obtain ⟨p0, p1, p2, p3, p4⟩ := hRBtA.below hbB5
            obtain ⟨u0, u1, u2, u3, u4⟩ := hRBu.below hbB5
            have cm7 : wB.cell? ⟨mb4, mo4 + k, none⟩ = some (.int .i64 (q + 1)) := by rw [hbB5.cell (p := ⟨mb4, mo4 + k, none⟩) hmbA]; exact cm5
            have hmbB : mb4 < wB.heap.size := by have := hbB5.size; omega
            have hownB := ownsRow_below hownA hbB5
            have cs : wB.cell? ⟨g, k, none⟩ = some (.int .i64 q) := by
              rw [hownB.cellAt k (by omega), zs_get (by rw [List.length_set]; exact hkZ)]
              simp
            have hgB : g < wB.heap.size := (hownB.lt g rfl).2
            have hBf : Below w.heap.size w wB := hbB.trans ((hBA.trans (hbB5.mono hszA)).mono hbB.size)
            have htk9 : (tk3 : Int) < 900 := by omega
            have hkI : (k : Int) < (Q.length : Int) := by omega
            have hd1 : ((q + 1) == (q + 1)) = true := by simp
            have hd2 : decide (mq ≤ q) = true := by simp [hmv]
            clear hrun5 hTL5 hr5 hend5 hO5 hmo5 hus5 hM5 hmq he5 hownA hownB hTlA hRBu hRBtA cm5
            go_wp2
            go_quiet (fail)
            go_wp2
            go_ret
            exact ⟨rfl, below_drewN (hBf.alloc hBf.size _) _⟩

set_option maxRecDepth 100000 in
theorem lifted (os : Os) (started : os.Started) (H : Type) (enc : TypeId × Value → H) :
    ReturnsInHanded {} Try.checked os 6 .any (Rows.fullSpec.pre6 enc Try.prog Try.f6 Rows.fullRow.domain false) (Rows.fullSpec.post enc Try.prog Try.f6 false true false false) := by
  refine returnsInHanded_of_change (C := Try.checked) own started (by kernel_rfl) Try.func6
    (ChangeSpec.witness6 (enc := enc) (C := Try.checked) false ⟨#[], #[.string ByteArray.empty, .int .i64 0, .int .i64 0], []⟩ 8 (by kernel_rfl) (by kernel_rfl) (by kernel_rfl) (by kernel_rfl)) ?_
  intro W base args ds gs before hval0 hW hcnd _
  have hval : ∀ (j : Nat) t v, Try.f6.params[j]? = some t → args[j]? = some v → Value.okWide Try.prog W .any base t v := hval0
  have hW' := hW
  obtain ⟨p, q, hA0, hV, rfl, hfz, hnd⟩ := hW
  have hA : DataW.TrodAll enc Try.prog W 0 (fun _ => true) true Try.f6.params.toList args.toList ds p := hA0
  rw [Try.params6] at hA hval
  obtain ⟨v0, vs0, d0, ds0, p0, q0, hargs, rfl, rfl, h0, r0⟩ := trodAll_cons hA
  obtain ⟨v1, vs1, d1, ds1, p1, q1, rfl, rfl, rfl, h1, r1⟩ := trodAll_cons r0
  obtain ⟨v2, vs2, d2, ds2, p2, q2, rfl, rfl, rfl, h2, r2⟩ := trodAll_cons r1
  obtain ⟨rfl, rfl, rfl⟩ := trodAll_nil r2
  obtain rfl : args = #[v0, v1, v2] := by cases args; simp_all
  obtain ⟨rfl, rfl⟩ := trodVars_none hV
  obtain ⟨a0, rfl, rfl, rfl, w0⟩ := open_string Try.underlying9 (hval 0 9 v0 rfl rfl) h0
  obtain ⟨a1, rfl, rfl, rfl, w1⟩ := open_int Try.underlying3 (hval 1 3 v1 rfl rfl) h1
  obtain ⟨a2, rfl, rfl, rfl, w2⟩ := open_int Try.underlying3 (hval 2 3 v2 rfl rfl) h2
  clear hA0 hval0
  simp only [List.append_nil] at hW'
  refine (walk a0 a1 a2 w0 w1 w2 W).mono fun e W' ⟨he, hb⟩ => ?_
  subst he
  exact ⟨_, rfl, _, _, _, [], [], [], hW', trodAll_cons_mk (shut_bool Try.underlying4 _) trodAll_mk0, (trodAll_cons_mk (shut_string Try.underlying9 w0) (trodAll_cons_mk (shut_int Try.underlying3 w1) (trodAll_cons_mk (shut_int Try.underlying3 w2) trodAll_mk0))), rfl, hb.frame _, fun h => by cases h⟩

theorem over : Rows.fullRow.holds Try.pinned (OpenSpec.ofChange Rows.fullSpec) :=
  OpenClaim.holds_of_wide 6 Try.f6 rfl rfl rfl rfl rfl rfl rfl ⟨rfl, rfl, rfl, rfl, rfl⟩ rfl rfl rfl rfl rfl (by kernel_rfl) Try.func6 (by kernel_rfl)
    (of_decide_eq_true (by kernel_rfl)) (by unfold Func.isWrapper; first | (rw [if_pos (by decide +kernel)]; kernel_rfl) | (rw [if_neg (by decide +kernel)]; exact ⟨rfl, rfl⟩))
    (fun os started H enc _ => lifted os started H enc)

end Go.Proofs.Ytfbkjopidjojeab.full
namespace Go.Proofs.Ytfbkjopidjojeab
/-- The statement. -/
theorem full_holds : Rows.FullSaid := full.over
#print axioms full_holds
end Go.Proofs.Ytfbkjopidjojeab

