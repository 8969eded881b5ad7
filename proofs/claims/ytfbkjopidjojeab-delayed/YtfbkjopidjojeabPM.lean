/-
  Joined: Ka Kb.
-/
import Derived.Test.YtfbkjopidjojeabPL
namespace Go.Proofs.Ytfbkjopidjojeab
open Go.RowKit

/-- A number's digits. -/
def digs : Nat → Nat → List UInt8
  | 0, _ => []
  | f + 1, v => if v < 10 then [UInt8.ofNat (48 + v)] else digs f (v / 10) ++ [UInt8.ofNat (48 + v % 10)]
theorem dig_isDig {d : Nat} (h : d < 10) : isDig (UInt8.ofNat (48 + d)) = true ∧ ((UInt8.ofNat (48 + d)).toNat : Int) = 48 + d := by
  have : d = 0 ∨ d = 1 ∨ d = 2 ∨ d = 3 ∨ d = 4 ∨ d = 5 ∨ d = 6 ∨ d = 7 ∨ d = 8 ∨ d = 9 := by omega
  rcases this with rfl | rfl | rfl | rfl | rfl | rfl | rfl | rfl | rfl | rfl <;> exact ⟨by decide, by decide⟩
theorem digs_ok : ∀ (f v : Nat), v < 10 ^ f → 0 < f → (digs f v).all isDig = true ∧ 0 < (digs f v).length ∧ (digs f v).length ≤ f ∧ digN (digs f v) = v := by
  intro f
  induction f with
  | zero => intro v _ h; omega
  | succ f ih =>
    intro v hv _
    rw [digs]
    by_cases h : v < 10
    · rw [if_pos h]
      obtain ⟨h1, h2⟩ := dig_isDig h
      refine ⟨by rw [List.all_cons, h1]; rfl, by simp, by simp, ?_⟩
      show (0 * 10 + (((UInt8.ofNat (48 + v)).toNat : Int) - 48)) = v
      rw [h2]; omega
    · rw [if_neg h]
      have hf : 0 < f := by
        rcases Nat.eq_zero_or_pos f with q | q
        · subst q; simp at hv; omega
        · exact q
      have hq : v / 10 < 10 ^ f := by
        rw [Nat.pow_succ] at hv
        omega
      obtain ⟨a, b, c, d⟩ := ih (v / 10) hq hf
      obtain ⟨h1, h2⟩ := dig_isDig (Nat.mod_lt v (by decide : 0 < 10))
      refine ⟨by rw [List.all_append, a, List.all_cons, h1]; rfl, by simp, by simp; omega, ?_⟩
      unfold digN at d ⊢
      rw [List.foldl_append, d]
      show ((v / 10 : Nat) : Int) * 10 + (((UInt8.ofNat (48 + v % 10)).toNat : Int) - 48) = v
      rw [h2]; omega
theorem digs_no {f v : Nat} {m : UInt8} (hv : v < 10 ^ f) (hf : 0 < f) (hm : isDig m = false) : m ∉ digs f v := fun h => by
  have := List.all_eq_true.1 (digs_ok f v hv hf).1 m h
  rw [hm] at this; cases this
theorem digs_num {v : Nat} (hv : v < 10 ^ 10) : numL (45 :: digs 10 v) = some (-(v : Int)) := by
  obtain ⟨a, b, c, d⟩ := digs_ok 10 v hv (by decide)
  have : okD (digs 10 v) = true := by unfold okD; rw [a]; simp; omega
  show (if okD (digs 10 v) = true then some (-digN (digs 10 v)) else none) = _
  rw [if_pos this, d]

/- The first program. -/
def d1L (D : List UInt8) : List UInt8 := [105, 110, 32, 120, 32, 40, 49, 41, 10, 121, 32, 61, 32, 102, 98, 121, 32, 45] ++ (D ++ [32, 120, 10, 111, 117, 116, 32, 121])
def d1Q (v : Int) (c0 c1 : Wd) : List St := [⟨1, 1, [120], [], 0, ([], [true]), c0⟩, ⟨2, 9, [121], [0], v, ([], []), c1⟩, ⟨3, 13, [], [1], 0, ([], []), ([], [])⟩]
theorem d1_comp {D : List UInt8} {v : Int} (hD : (10 : UInt8) ∉ D ∧ (32 : UInt8) ∉ D) (hl : D.length ≤ 10) (hn : numL (45 :: D) = some v) : compF (d1L D) = .ok (d1Q v ([], [true]) ([], [true])) := by
  have hlen : ¬ 800 < (d1L D).length := by
    unfold d1L
    simp only [List.length_append, List.length_cons, List.length_nil]
    omega
  have hcut : cutL 10 (d1L D) = [[105, 110, 32, 120, 32, 40, 49, 41], [121, 32, 61, 32, 102, 98, 121, 32, 45] ++ (D ++ [32, 120]), [111, 117, 116, 32, 121]] := by
    unfold d1L
    simp [cutL, cut_pre hD.1, pre]
  have c1 : filL (cutL 32 [105, 110, 32, 120, 32, 40, 49, 41]) = [[105, 110], [120], [40, 49, 41]] := by rfl
  have c2 : filL (cutL 32 ([121, 32, 61, 32, 102, 98, 121, 32, 45] ++ (D ++ [32, 120]))) = [[121], [61], [102, 98, 121], 45 :: D, [120]] := by
    simp [cutL, cut_pre hD.2, pre, filL]
  have c5 : filL (cutL 32 [111, 117, 116, 32, 121]) = [[111, 117, 116], [121]] := by rfl
  have q1 : parseL [[105, 110], [120], [40, 49, 41]] = some ⟨0, 1, [120], [], 0, ([], [true])⟩ := by rfl
  have q2 : parseL [[121], [61], [102, 98, 121], 45 :: D, [120]] = some ⟨0, 9, [121], [[120]], v, ([], [])⟩ := by
    simp [parseL, operL, ownL, fillL, takeL, okN, isLet, Ln.zero, hn]
  have q5 : parseL [[111, 117, 116], [121]] = some ⟨0, 13, [], [[121]], 0, ([], [])⟩ := by rfl
  have hsrc : sourceL (d1L D) = .ok [⟨1, 1, [120], [], 0, ([], [true])⟩, ⟨2, 9, [121], [[120]], v, ([], [])⟩, ⟨3, 13, [], [[121]], 0, ([], [])⟩] := by
    unfold sourceL
    rw [if_neg hlen, hcut]
    simp only [readL, c1, c2, c5, q1, q2, q5, List.isEmpty_cons, Bool.false_eq_true, if_false]
    rfl
  have hlink : linkL [⟨1, 1, [120], [], 0, ([], [true])⟩, ⟨2, 9, [121], [[120]], v, ([], [])⟩, ⟨3, 13, [], [[121]], 0, ([], [])⟩] [⟨1, 1, [120], [], 0, ([], [true])⟩, ⟨2, 9, [121], [[120]], v, ([], [])⟩, ⟨3, 13, [], [[121]], 0, ([], [])⟩] = .ok (d1Q v ([], []) ([], [])) := rfl
  have htw : (twF [⟨1, 1, [120], [], 0, ([], [true])⟩, ⟨2, 9, [121], [[120]], v, ([], [])⟩, ⟨3, 13, [], [[121]], 0, ([], [])⟩]).1 = 0 := rfl
  have hsol : solveL 4 ((d1Q v ([], []) ([], [])).map give) = .ok (d1Q v ([], [true]) ([], [true])) := by
    have hgive : (d1Q v ([], []) ([], [])).map give = d1Q v ([], [true]) ([], []) := rfl
    have s0 : ∀ x mm, tick (d1Q v ([], [true]) x) 0 mm = .ok (d1Q v ([], [true]) x, mm) := fun x mm => tick_skip (s := ⟨1, 1, [120], [], 0, ([], [true]), ([], [true])⟩) rfl rfl
    have s1 : ∀ mm, tick (d1Q v ([], [true]) ([], [])) 1 mm = .ok (d1Q v ([], [true]) ([], [true]), true) := fun mm => tick_set (s := ⟨2, 9, [121], [0], v, ([], []), ([], [])⟩) (c := ([], [true])) rfl rfl rfl rfl rfl
    have k1 : ∀ mm, tick (d1Q v ([], [true]) ([], [true])) 1 mm = .ok (d1Q v ([], [true]) ([], [true]), mm) := fun mm => tick_skip (s := ⟨2, 9, [121], [0], v, ([], []), ([], [true])⟩) rfl rfl
    have s2 : ∀ mm, tick (d1Q v ([], [true]) ([], [true])) 2 mm = .ok (d1Q v ([], [true]) ([], [true]), mm) := fun mm => tick_none (s := ⟨3, 13, [], [1], 0, ([], []), ([], [])⟩) rfl rfl rfl
    have p1 : pass 3 (d1Q v ([], [true]) ([], [])) 0 false = .ok (d1Q v ([], [true]) ([], [true]), true) := by simp only [pass, s0, s1, s2]
    have p2 : pass 3 (d1Q v ([], [true]) ([], [true])) 0 false = .ok (d1Q v ([], [true]) ([], [true]), false) := by simp only [pass, s0, k1, s2]
    have hlen : ∀ x y, (d1Q v x y).length = 3 := fun _ _ => rfl
    rw [hgive, solveL, hlen, p1]
    simp only [if_true]
    rw [solveL, hlen, p2]
    simp
  have hhang : (firstF 9 (d1Q v ([], []) ([], [])) (hangB (d1Q v ([], []) ([], [])))).1 = 0 := by
    rw [firstF_none (fun k _ => no_hang (fun x => x) (fun k y h => ?_) k)]
    obtain ⟨s, h1, h2, h3⟩ := h
    have hk : k < 3 := (List.getElem?_eq_some_iff.1 h1).1
    have : k = 0 ∨ k = 1 ∨ k = 2 := by omega
    rcases this with rfl | rfl | rfl <;> (injection h1 with h1; subst h1; simp at h2 h3; try omega)
  have hfit : (firstF 10 (d1Q v ([], [true]) ([], [true])) (badFit (d1Q v ([], [true]) ([], [true])))).1 = 0 := by
    rw [firstF_none (fun k hk => ?_)]
    have hk3 : k < 3 := hk
    have : k = 0 ∨ k = 1 ∨ k = 2 := by omega
    rcases this with rfl | rfl | rfl <;> rfl
  unfold compF
  rw [hsrc]
  simp only
  unfold makeF
  rw [if_pos htw, hlink]
  simp only
  rw [if_pos hhang]
  have hl4 : (d1Q v ([], []) ([], [])).length + 1 = 4 := rfl
  rw [hl4, hsol]
  simp only
  rw [if_pos hfit]

/- What comes out, by steps. -/
theorem one_end {R : List St} (hg : Good R) {X : List Nat} (ho : OrdOk R X) (h1 : cntL R 1 = 1) (L : List Int) (hL : L.length = 30) {en tk : Nat} {us : List Tk} (hr : runL X 30 0 (beginL R [L] []) = (en, tk, us)) : en = 1 ∧ us = simL X (beginL R [L] []) 30 := by
  obtain ⟨hus, _, _, hend⟩ := run_nil hg ho (Ls := [L]) (n := 30) (fun l hl => by rw [List.mem_singleton.1 hl]; exact hL) (by rw [h1]; rfl) (by decide) hr
  have he : en = 1 ∧ tk = 30 := by
    rcases hend with h | ⟨_, h, hw⟩
    · exact h
    · exact absurd hw (want_never (by omega))
  rw [he.2] at hus
  exact ⟨he.1, hus⟩
/-- The input's step. -/
theorem in_step {R : List St} (hg : Good R) {X : List Nat} (ho : OrdOk R X) {ts : List Tk} (hat : At R 0 ts) (hm0 : ∀ x ∈ ts, x.most = 0) {k : Nat} {x0 : Tk} {L : List Int} {no : Nat} {nm : List UInt8} (hx : ts[k]? = some x0) (hs : x0.st = ⟨no, 1, nm, [], 0, ([], [true]), ([], [true])⟩) (hl : x0.list = L) (hL : L.length = 30) : ∀ t, t ≤ 30 → ∃ x, (simL X ts t)[k]? = some x ∧ x.made = L.take t := by
  intro t
  induction t with
  | zero =>
    intro _
    refine ⟨x0, hx, ?_⟩
    have := hat.len x0 (List.mem_of_getElem? hx)
    exact List.length_eq_zero_iff.1 this
  | succ t ih =>
    intro ht
    obtain ⟨x, hxt, hxm⟩ := ih (by omega)
    obtain ⟨x', ex, sx⟩ := sim_x hg ho hat hm0 hx t
    rw [hxt] at ex; injection ex with ex; subst ex
    obtain ⟨nx, hnx, mx'⟩ := sim_next hg ho hat hxt
    refine ⟨nx, hnx, ?_⟩
    have xst : x.st = ⟨no, 1, nm, [], 0, ([], [true]), ([], [true])⟩ := sx.st.trans hs
    have bx : ckS x.st t = true := by rw [xst]; exact wd_one.bits t
    have hxlen : x.made.length = t := by rw [hxm, List.length_take]; omega
    rw [mx', bx, if_pos rfl, take_snoc_getD (by omega), hxm]
    congr 1
    show [nextL _ x] = _
    unfold nextL
    rw [xst, sx.list, hl, hxlen]; rfl
theorem d1_run {v : Int} (hc : ∃ tx, compF tx = .ok (d1Q v ([], [true]) ([], [true]))) (L : List Int) (hL : L.length = 30) {X : List Nat} (ho : OrdOk (d1Q v ([], [true]) ([], [true])) X) {en tk : Nat} {us : List Tk} (hr : runL X 30 0 (beginL (d1Q v ([], [true]) ([], [true])) [L] []) = (en, tk, us)) : en = 1 ∧ outsOf us us = [(v :: L).take 30] := by
  obtain ⟨tx, hc⟩ := hc
  have hg := comp_good hc
  have hat := begin_at (d1Q v ([], [true]) ([], [true])) [L] []
  have hm0 : ∀ x ∈ beginL (d1Q v ([], [true]) ([], [true])) [L] [], x.most = 0 := fun x hx => (beginL_mem hx).2
  obtain ⟨he, hus⟩ := one_end hg ho rfl L hL hr
  refine ⟨he, ?_⟩
  obtain ⟨x00, hx00, hl00, hs00⟩ : ∃ x, (beginL (d1Q v ([], [true]) ([], [true])) [L] [])[0]? = some x ∧ x.list = L ∧ x.st = ⟨1, 1, [120], [], 0, ([], [true]), ([], [true])⟩ := ⟨_, rfl, rfl, rfl⟩
  obtain ⟨x10, hx10, hs10⟩ : ∃ x, (beginL (d1Q v ([], [true]) ([], [true])) [L] [])[1]? = some x ∧ x.st = ⟨2, 9, [121], [0], v, ([], []), ([], [true])⟩ := ⟨_, rfl, rfl⟩
  have hin := in_step hg ho hat hm0 hx00 hs00 hl00 hL
  have key : ∀ t, t ≤ 30 → ∃ y, (simL X (beginL (d1Q v ([], [true]) ([], [true])) [L] []) t)[1]? = some y ∧ y.made = (v :: L).take t := by
    intro t
    induction t with
    | zero =>
      intro _
      refine ⟨x10, hx10, ?_⟩
      rw [(beginL_mem (List.mem_of_getElem? hx10)).1]; rfl
    | succ t ih =>
      intro ht
      obtain ⟨y, hy, hym⟩ := ih (by omega)
      obtain ⟨y', ey, sy⟩ := sim_x hg ho hat hm0 hx10 t
      rw [hy] at ey; injection ey with ey; subst ey
      obtain ⟨ny, hny, my⟩ := sim_next hg ho hat hy
      obtain ⟨nx, hnx, hnxm⟩ := hin (t + 1) ht
      have yst : y.st = ⟨2, 9, [121], [0], v, ([], []), ([], [true])⟩ := sy.st.trans hs10
      have by_ : ckS y.st t = true := by rw [yst]; exact wd_one.bits t
      have hylen : y.made.length = t := by rw [hym, List.length_take, List.length_cons]; omega
      refine ⟨ny, hny, ?_⟩
      rw [my, by_, if_pos rfl, take_snoc_getD (by rw [List.length_cons]; omega), hym]
      congr 2
      unfold nextL
      rw [hylen, yst]
      show (if t = 0 then v else usedL _ _ 0 (t - 1)) = _
      cases t with
      | zero => rfl
      | succ t =>
        rw [if_neg (by omega)]
        unfold usedL
        rw [madeAt_of (j := 0) rfl hnx, hnxm]
        simp only [Nat.add_sub_cancel, List.getD_eq_getElem?_getD, List.getElem?_take, List.getElem?_cons_succ]
        rw [if_pos (by omega)]
  obtain ⟨y, hy, hym⟩ := key 30 (Nat.le_refl _)
  have hst := (sim_at hg ho hat 30).st
  rw [← hus] at hst hy
  rw [outs_q hg.named hst]
  show [madeAt us _ 0] = _
  rw [madeAt_of (j := 1) rfl hy, hym]

/- The second program: a buffer that waits. -/
def d2L (n : Nat) : List UInt8 := [111, 117, 116, 32, 121, 10, 121, 32, 61, 32, 98, 117, 102, 102, 101, 114, 32, 120, 32] ++ (List.replicate n 48 ++ [40, 49, 41, 10, 105, 110, 32, 120, 32, 40, 49, 41])
def d2Q (n : Nat) : List St := [⟨1, 13, [], [1], 0, ([], []), ([], [])⟩, ⟨2, 12, [121], [2], 0, (List.replicate n false, [true]), (List.replicate n false, [true])⟩, ⟨3, 1, [120], [], 0, ([], [true]), ([], [true])⟩]
theorem d2_comp {n : Nat} (h : n < 12) : compF (d2L n) = .ok (d2Q n) := by
  have : n = 0 ∨ n = 1 ∨ n = 2 ∨ n = 3 ∨ n = 4 ∨ n = 5 ∨ n = 6 ∨ n = 7 ∨ n = 8 ∨ n = 9 ∨ n = 10 ∨ n = 11 := by omega
  rcases this with rfl | rfl | rfl | rfl | rfl | rfl | rfl | rfl | rfl | rfl | rfl | rfl
  all_goals exact compC_ok (by kernel_rfl)
theorem wait_bit (n t : Nat) : bitAt (List.replicate n false) [true] t = decide (n ≤ t) := by
  unfold bitAt
  rw [List.length_replicate]
  by_cases h : t < n
  · rw [if_pos h, decide_eq_false (by omega), List.getD_eq_getElem?_getD, List.getElem?_replicate, if_pos h]; rfl
  · rw [if_neg h, decide_eq_true (by omega)]; simp [Nat.mod_one]
theorem d2_run {n : Nat} (hn : n < 12) (L : List Int) (hL : L.length = 30) {X : List Nat} (ho : OrdOk (d2Q n) X) {en tk : Nat} {us : List Tk} (hr : runL X 30 0 (beginL (d2Q n) [L] []) = (en, tk, us)) : en = 1 ∧ outsOf us us = [L.take (30 - n)] := by
  have hg := comp_good (d2_comp hn)
  have hat := begin_at (d2Q n) [L] []
  have hm0 : ∀ x ∈ beginL (d2Q n) [L] [], x.most = 0 := fun x hx => (beginL_mem hx).2
  obtain ⟨he, hus⟩ := one_end hg ho rfl L hL hr
  refine ⟨he, ?_⟩
  obtain ⟨x20, hx20, hl20, hs20⟩ : ∃ x, (beginL (d2Q n) [L] [])[2]? = some x ∧ x.list = L ∧ x.st = ⟨3, 1, [120], [], 0, ([], [true]), ([], [true])⟩ := ⟨_, rfl, rfl, rfl⟩
  obtain ⟨x10, hx10, hs10⟩ : ∃ x, (beginL (d2Q n) [L] [])[1]? = some x ∧ x.st = ⟨2, 12, [121], [2], 0, (List.replicate n false, [true]), (List.replicate n false, [true])⟩ := ⟨_, rfl, rfl⟩
  have hin := in_step hg ho hat hm0 hx20 hs20 hl20 hL
  have key : ∀ t, t ≤ 30 → ∃ y, (simL X (beginL (d2Q n) [L] []) t)[1]? = some y ∧ y.made = L.take (t - n) := by
    intro t
    induction t with
    | zero =>
      intro _
      refine ⟨x10, hx10, ?_⟩
      rw [(beginL_mem (List.mem_of_getElem? hx10)).1]; simp
    | succ t ih =>
      intro ht
      obtain ⟨y, hy, hym⟩ := ih (by omega)
      obtain ⟨y', ey, sy⟩ := sim_x hg ho hat hm0 hx10 t
      rw [hy] at ey; injection ey with ey; subst ey
      obtain ⟨ny, hny, my⟩ := sim_next hg ho hat hy
      obtain ⟨nx, hnx, hnxm⟩ := hin (t + 1) ht
      have yst : y.st = ⟨2, 12, [121], [2], 0, (List.replicate n false, [true]), (List.replicate n false, [true])⟩ := sy.st.trans hs10
      have by_ : ckS y.st t = decide (n ≤ t) := by rw [yst]; exact wait_bit n t
      have hylen : y.made.length = t - n := by rw [hym, List.length_take]; omega
      refine ⟨ny, hny, ?_⟩
      rw [my, by_]
      by_cases hnt : n ≤ t
      · rw [decide_eq_true hnt, if_pos rfl, show t + 1 - n = t - n + 1 by omega, take_snoc_getD (by omega), hym]
        congr 2
        unfold nextL
        rw [hylen, yst]
        show usedL _ _ 0 (t - n) = _
        unfold usedL
        rw [madeAt_of (j := 2) rfl hnx, hnxm]
        simp only [List.getD_eq_getElem?_getD, List.getElem?_take]
        rw [if_pos (by omega)]
      · rw [decide_eq_false hnt, if_neg (by simp), List.append_nil, hym, show t + 1 - n = 0 by omega, show t - n = 0 by omega]
  obtain ⟨y, hy, hym⟩ := key 30 (Nat.le_refl _)
  have hst := (sim_at hg ho hat 30).st
  rw [← hus] at hst hy
  rw [outs_q hg.named hst]
  show [madeAt us _ 0] = _
  rw [madeAt_of (j := 1) rfl hy, hym]

/- The third program: a loop that sums up. -/
def d3B : ByteArray := { data := #[105, 110, 32, 120, 32, 40, 49, 41, 10, 115, 32, 61, 32, 102, 98, 121, 32, 48, 32, 116, 10, 116, 32, 61, 32, 97, 100, 100, 32, 115, 32, 120, 10, 111, 117, 116, 32, 116] }
def d3Q : List St := [⟨1, 1, [120], [], 0, ([], [true]), ([], [true])⟩, ⟨2, 9, [115], [2], 0, ([], []), ([], [true])⟩, ⟨3, 3, [116], [1, 0], 0, ([], []), ([], [true])⟩, ⟨4, 13, [], [2], 0, ([], []), ([], [])⟩]
theorem d3_comp : compF d3B.data.toList = .ok d3Q := compC_ok (by kernel_rfl)
/-- Sums that go round. -/
def sumL (L : List Int) : Nat → Int
  | 0 => 0
  | k + 1 => wr (sumL L k + L.getD k 0)
theorem tabI_snoc (f : Nat → Int) (t : Nat) : (List.range (t + 1)).map f = (List.range t).map f ++ [f t] := by rw [List.range_succ, List.map_append]; rfl
theorem tabI_get {f : Nat → Int} {t k : Nat} (h : k < t) : ((List.range t).map f).getD k 0 = f k := by simp [h]
theorem d3_run (L : List Int) (hL : L.length = 30) {X : List Nat} (ho : OrdOk d3Q X) {en tk : Nat} {us : List Tk} (hr : runL X 30 0 (beginL d3Q [L] []) = (en, tk, us)) : en = 1 ∧ outsOf us us = [(List.range 30).map fun k => sumL L (k + 1)] := by
  have hg := comp_good d3_comp
  have hat := begin_at d3Q [L] []
  have hm0 : ∀ x ∈ beginL d3Q [L] [], x.most = 0 := fun x hx => (beginL_mem hx).2
  obtain ⟨he, hus⟩ := one_end hg ho rfl L hL hr
  refine ⟨he, ?_⟩
  obtain ⟨x00, hx00, hl00, hs00⟩ : ∃ x, (beginL d3Q [L] [])[0]? = some x ∧ x.list = L ∧ x.st = ⟨1, 1, [120], [], 0, ([], [true]), ([], [true])⟩ := ⟨_, rfl, rfl, rfl⟩
  obtain ⟨x10, hx10, hs10⟩ : ∃ x, (beginL d3Q [L] [])[1]? = some x ∧ x.st = ⟨2, 9, [115], [2], 0, ([], []), ([], [true])⟩ := ⟨_, rfl, rfl⟩
  obtain ⟨x20, hx20, hs20⟩ : ∃ x, (beginL d3Q [L] [])[2]? = some x ∧ x.st = ⟨3, 3, [116], [1, 0], 0, ([], []), ([], [true])⟩ := ⟨_, rfl, rfl⟩
  have hin := in_step hg ho hat hm0 hx00 hs00 hl00 hL
  have key : ∀ t, t ≤ 30 → ∃ y z, (simL X (beginL d3Q [L] []) t)[1]? = some y ∧ y.made = (List.range t).map (sumL L) ∧ (simL X (beginL d3Q [L] []) t)[2]? = some z ∧ z.made = (List.range t).map fun k => sumL L (k + 1) := by
    intro t
    induction t with
    | zero =>
      intro _
      refine ⟨x10, x20, hx10, ?_, hx20, ?_⟩
      · rw [(beginL_mem (List.mem_of_getElem? hx10)).1]; rfl
      · rw [(beginL_mem (List.mem_of_getElem? hx20)).1]; rfl
    | succ t ih =>
      intro ht
      obtain ⟨y, z, hy, hym, hz, hzm⟩ := ih (by omega)
      obtain ⟨y', ey, sy⟩ := sim_x hg ho hat hm0 hx10 t
      rw [hy] at ey; injection ey with ey; subst ey
      obtain ⟨z', ez, sz⟩ := sim_x hg ho hat hm0 hx20 t
      rw [hz] at ez; injection ez with ez; subst ez
      obtain ⟨ny, hny, my⟩ := sim_next hg ho hat hy
      obtain ⟨nz, hnz, mz⟩ := sim_next hg ho hat hz
      obtain ⟨nx, hnx, hnxm⟩ := hin (t + 1) ht
      have yst : y.st = ⟨2, 9, [115], [2], 0, ([], []), ([], [true])⟩ := sy.st.trans hs10
      have zst : z.st = ⟨3, 3, [116], [1, 0], 0, ([], []), ([], [true])⟩ := sz.st.trans hs20
      have by_ : ckS y.st t = true := by rw [yst]; exact wd_one.bits t
      have bz : ckS z.st t = true := by rw [zst]; exact wd_one.bits t
      have hylen : y.made.length = t := by rw [hym]; simp
      have hzlen : z.made.length = t := by rw [hzm]; simp
      have vy : ny.made = (List.range (t + 1)).map (sumL L) := by
        rw [my, by_, if_pos rfl, tabI_snoc, hym]
        congr 2
        unfold nextL
        rw [hylen, yst]
        show (if t = 0 then (0 : Int) else usedL _ _ 0 (t - 1)) = _
        cases t with
        | zero => rfl
        | succ t =>
          rw [if_neg (by omega)]
          unfold usedL
          rw [madeAt_of (j := 2) rfl hnz, mz, hzm]
          simp only [Nat.add_sub_cancel, List.getD_eq_getElem?_getD]
          rw [List.getElem?_append_left (by simp)]
          simp
      refine ⟨ny, nz, hny, vy, hnz, ?_⟩
      rw [mz, bz, if_pos rfl, tabI_snoc, hzm]
      congr 2
      unfold nextL
      rw [hzlen, zst]
      show wr (usedL _ _ 0 t + usedL _ _ 1 t) = wr (sumL L t + L.getD t 0)
      have e1 : usedL (simL X (beginL d3Q [L] []) (t + 1)) ⟨3, 3, [116], [1, 0], 0, ([], []), ([], [true])⟩ 0 t = sumL L t := by
        unfold usedL
        rw [madeAt_of (j := 1) rfl hny, vy, tabI_get (by omega)]
      have e2 : usedL (simL X (beginL d3Q [L] []) (t + 1)) ⟨3, 3, [116], [1, 0], 0, ([], []), ([], [true])⟩ 1 t = L.getD t 0 := by
        unfold usedL
        rw [madeAt_of (j := 0) rfl hnx, hnxm]
        simp only [List.getD_eq_getElem?_getD, List.getElem?_take]
        rw [if_pos (by omega)]
      rw [e1, e2]
  obtain ⟨y, z, _, _, hz, hzm⟩ := key 30 (Nat.le_refl _)
  have hst := (sim_at hg ho hat 30).st
  rw [← hus] at hst hz
  rw [outs_q hg.named hst]
  show [madeAt us _ 0] = _
  rw [madeAt_of (j := 2) rfl hz, hzm]
end Go.Proofs.Ytfbkjopidjojeab

namespace Go.Proofs.Ytfbkjopidjojeab
open Go.RowKit

theorem S_app (a b : List UInt8) : S (a ++ b) = S a ++ S b := by
  rw [← S_of (S a ++ S b)]
  congr 1
theorem conv_one (w : World) (z : Int) (c : UInt8) (hz : (c.toNat : Int) = z) : (convert 81 9 (.slice (some ⟨w.heap.size, 0, none⟩) 1 1)).run Try.prog (w.alloc (Obj.cells #[.int .u8 z] 5)) = .ok (.string (S [c])) (w.alloc (Obj.cells #[.int .u8 z] 5)) := by
  have h : (w.alloc (Obj.cells #[.int .u8 z] 5)).ownsRow w.heap.size 5 1 (.slice (some ⟨w.heap.size, 0, none⟩) 1 1) 1 (ucs [c]) := by
    have := World.ownsRow_lit (base := w.heap.size) (e := 5) (size := 1) w #[.int .u8 z] 1 (Nat.le_refl _) (by unfold maxLen; omega) rfl
    rw [← hz] at this ⊢
    exact this
  exact own_bytes h (by decide)

set_option maxRecDepth 50000 in
set_option maxHeartbeats 1000000 in
theorem num_any : ∀ (f v : Nat), v < 10 ^ f → 0 < f → f ≤ 10 → ∀ w : World, Calls Try.prog 28 #[.int .i64 v] w fun e w' => e = .returned (.string (S (digs f v))) ∧ Below w.heap.size w w' := by
  intro f
  induction f with
  | zero => intro v _ h; omega
  | succ f ih =>
    intro v hv _ hf w
    have hvb : v < 10000000000 := by
      have : 10 ^ (f + 1) ≤ 10 ^ 10 := Nat.pow_le_pow_right (by decide) hf
      omega
    by_cases h : v < 10
    · obtain ⟨h1, h2⟩ := dig_isDig h
      obtain ⟨c, hc⟩ : ∃ c, UInt8.ofNat (48 + v) = c := ⟨_, rfl⟩
      rw [hc] at h2
      have hcv := fun w5 => conv_one w5 (48 + (v : Int)) c h2
      have h256 : (48 + (v : Int)) % 256 = 48 + (v : Int) := by omega
      have HD : Hid (digs (f + 1) v = [c]) := by show digs (f + 1) v = _; rw [digs, if_pos h, hc]
      clear h1 h2 ih hv hc
      go_enter Try.func28, Try.ntmps28
      go_wp2
      go_ret
      exact ⟨by rw [HD.out]; rfl, (Below.refl _ _).alloc (Nat.le_refl _) _⟩
    · have hf0 : 0 < f := by
        rcases Nat.eq_zero_or_pos f with q | q
        · subst q; simp at hv; omega
        · exact q
      have hq : v / 10 < 10 ^ f := by
        rw [Nat.pow_succ] at hv
        omega
      obtain ⟨h1, h2⟩ := dig_isDig (Nat.mod_lt v (by decide : 0 < 10))
      have hcall := ih (v / 10) hq hf0 (by omega) w
      have hsz := (digs_ok f (v / 10) hq hf0).2.2.1
      have hdiv : ((v : Int)).tdiv 10 = ((v / 10 : Nat) : Int) := by rw [Int.tdiv_eq_ediv_of_nonneg (by omega)]; omega
      have hdiv2 : ((v : Int)) / 10 = ((v / 10 : Nat) : Int) := by omega
      have hmod : ((v : Int)).tmod 10 = ((v % 10 : Nat) : Int) := by rw [Int.tmod_eq_emod_of_nonneg (by omega)]; omega
      have hmod2 : ((v : Int)) % 10 = ((v % 10 : Nat) : Int) := by omega
      have hmlt : v % 10 < 10 := Nat.mod_lt _ (by decide)
      have hql : v / 10 ≤ v := Nat.div_le_self _ _
      have HD : Hid (digs (f + 1) v = digs f (v / 10) ++ [UInt8.ofNat (48 + v % 10)]) := by show digs (f + 1) v = _; rw [digs, if_neg h]
      obtain ⟨q, hq0⟩ : ∃ q, v / 10 = q := ⟨_, rfl⟩
      obtain ⟨r, hr0⟩ : ∃ r, v % 10 = r := ⟨_, rfl⟩
      rw [hq0] at hcall hsz hdiv hdiv2 HD hql
      rw [hr0] at h2 hmod hmod2 hmlt HD
      obtain ⟨c, hc⟩ : ∃ c, UInt8.ofNat (48 + r) = c := ⟨_, rfl⟩
      rw [hc] at h2 HD
      have hcv := fun w5 => conv_one w5 (48 + (r : Int)) c h2
      have h256 : (48 + (r : Int)) % 256 = 48 + (r : Int) := by omega
      obtain ⟨D, hD⟩ : ∃ D, S (digs f q) = D := ⟨_, rfl⟩
      have hDs : D.size ≤ 10 := by rw [← hD, S_size]; omega
      have HDD : Hid (S (digs f q) = D) := hD
      have hSc : (S [c]).size ≤ 1 := by rw [S_size]; simp
      rw [hD] at hcall
      clear h1 h2 ih hv hq hsz hD hq0 hr0 hc
      go_enter Try.func28, Try.ntmps28
      go_wp2_with fail
      refine hcall.mono ?_
      rintro e w1 ⟨rfl, hb1⟩
      clear hcall
      go_wp2
      go_ret
      refine ⟨?_, hb1.alloc hb1.size _⟩
      have e : S (digs f q ++ [c]) = D ++ S [c] := by
        rw [← HDD.out]
        exact S_app _ _
      rw [HD.out, e]; rfl
end Go.Proofs.Ytfbkjopidjojeab

