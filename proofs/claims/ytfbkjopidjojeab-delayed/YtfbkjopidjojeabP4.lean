/-
  Joined: Dk Dl Dn Do Dp Dq Dr.
-/
import Derived.Test.YtfbkjopidjojeabP3
import Derived.Deep.RegionWith
import Derived.Deep.Cut
namespace Go.Proofs.Ytfbkjopidjojeab
open Go.RowKit

/-- What fits keeps. -/
def Bun1 (w W : World) (s : St) (up : Option Addr) (uc : Nat) (x0 : Nat) (c0 : Wd) : Prop :=
  StB W w.heap.size s (.slice up s.uses.length uc) ∧ Boxed W x0 (bs c0.1) (bs c0.2) ∧ Below w.heap.size w W ∧ w.heap.size < W.heap.size ∧ x0 < W.heap.size
theorem Bun1.below {w W W' : World} {s : St} {up : Option Addr} {uc x0 : Nat} {c0 : Wd} (h : Bun1 w W s up uc x0 c0) (hb : Below W.heap.size W W') : Bun1 w W' s up uc x0 c0 := by
  obtain ⟨h1, h2, h3, h4, h5⟩ := h
  have hz := hb.size
  exact ⟨h1.below hb (by omega), h2.below hb h5, h3.trans (hb.mono (by omega)), by omega, by omega⟩
theorem Bun1.mk1 {w w1 : World} {s : St} {up : Option Addr} {uc : Nat} {c0 : Wd} (h0 : Below w.heap.size w w1) (h1 : StB w1 w.heap.size s (.slice up s.uses.length uc)) (hz : w.heap.size < w1.heap.size) :
    Bun1 w (w1.alloc (Obj.cells #[.string (bs c0.1), .string (bs c0.2)] 74)) s up uc w1.heap.size c0 := by
  have hA1 : Below w1.heap.size w1 (w1.alloc (Obj.cells #[.string (bs c0.1), .string (bs c0.2)] 74)) := (Below.refl _ _).alloc (Nat.le_refl _) _
  exact ⟨h1.below hA1 hz, Boxed.new w1 _ _ _ _ rfl, h0.trans (hA1.mono (by omega)), by simp; omega, by simp⟩

theorem boxed_other {w : World} {b c : Nat} {x y : ByteArray} (h : Boxed w b x y) (hb : c ≠ b) (p q : Value) : Boxed ((w.setCell ⟨c, 0, none⟩ p).setCell ⟨c, 1, none⟩ q) b x y := by
  have n : ∀ i j, (⟨c, i, none⟩ : Addr) ≠ ⟨b, j, none⟩ := fun i j e => by injection e with e; exact hb e
  refine ⟨?_, ?_, ?_, ?_⟩
  · rw [World.cell?_setCell_other _ _ _ _ (n 1 0), World.cell?_setCell_other _ _ _ _ (n 0 0)]; exact h.c0
  · rw [World.cell?_setCell_other _ _ _ _ (n 1 1), World.cell?_setCell_other _ _ _ _ (n 0 1)]; exact h.c1
  · rw [World.frozen?_setCell, World.frozen?_setCell]; exact h.f0
  · rw [World.frozen?_setCell, World.frozen?_setCell]; exact h.f1

/-- What fits keeps, with two words. -/
def Bun2 (w W : World) (s : St) (up : Option Addr) (uc : Nat) (x0 : Nat) (c0 : Wd) (x1 : Nat) (c1 : Wd) : Prop :=
  StB W w.heap.size s (.slice up s.uses.length uc) ∧ Boxed W x0 (bs c0.1) (bs c0.2) ∧ Boxed W x1 (bs c1.1) (bs c1.2) ∧ Below w.heap.size w W ∧ w.heap.size < W.heap.size ∧ x0 < W.heap.size ∧ x1 < W.heap.size
theorem Bun2.below {w W W' : World} {s : St} {up : Option Addr} {uc x0 x1 : Nat} {c0 c1 : Wd} (h : Bun2 w W s up uc x0 c0 x1 c1) (hb : Below W.heap.size W W') : Bun2 w W' s up uc x0 c0 x1 c1 := by
  obtain ⟨h1, h2, h3, h4, h5, h6, h7⟩ := h
  have hz := hb.size
  exact ⟨h1.below hb (by omega), h2.below hb h6, h3.below hb h7, h4.trans (hb.mono (by omega)), by omega, by omega, by omega⟩
theorem Bun2.mkA {w W : World} {s : St} {up : Option Addr} {uc x0 : Nat} {c0 c1 : Wd} (h : Bun1 w W s up uc x0 c0) : Bun2 w (W.alloc (Obj.cells #[.string (bs c1.1), .string (bs c1.2)] 74)) s up uc x0 c0 W.heap.size c1 := by
  have hA : Below W.heap.size W (W.alloc (Obj.cells #[.string (bs c1.1), .string (bs c1.2)] 74)) := (Below.refl _ _).alloc (Nat.le_refl _) _
  obtain ⟨h1, h2, h3, h4, h5⟩ := h.below hA
  exact ⟨h1, h2, Boxed.new W _ _ _ _ rfl, h3, h4, h5, by simp⟩
theorem Bun2.mkB {w W : World} {s : St} {up : Option Addr} {uc x0 x1 : Nat} {c0 c1 : Wd} {y z : ByteArray} (h : Bun1 w W s up uc x0 c0) (hb : Boxed W x1 y z) (hn : w.heap.size < x1) (hm : x0 < x1) :
    Bun2 w ((W.setCell ⟨x1, 0, none⟩ (.string (bs c1.1))).setCell ⟨x1, 1, none⟩ (.string (bs c1.2))) s up uc x0 c0 x1 c1 := by
  obtain ⟨h1, h2, h3, h4, h5⟩ := h
  have hlt := World.block_lt_of_cell? W ⟨x1, 0, none⟩ hb.c0
  refine ⟨?_, boxed_other h2 (Nat.ne_of_gt hm) _ _, hb.store _ _, ?_, by simp [World.setCell]; exact h4, by simp [World.setCell]; exact h5, by simp [World.setCell]; exact hlt⟩
  · unfold StB
    rw [heap_setCell_other _ _ _ _ (fun e => Nat.ne_of_gt hn e.symm), heap_setCell_other _ _ _ _ (fun e => Nat.ne_of_gt hn e.symm)]; exact h1
  · exact (h3.setCell (Nat.le_of_lt hn) _).setCell (Nat.le_of_lt hn) _

theorem Boxed_lt {w : World} {b : Nat} {x y : ByteArray} (h : Boxed w b x y) : b < w.heap.size := by
  have := h.c0
  exact World.block_lt_of_cell? w ⟨b, 0, none⟩ this
theorem Boxed.below' {w w' : World} {b : Nat} {x y : ByteArray} (h : Boxed w b x y) (hb : Below w.heap.size w w') : Boxed w' b x y := h.below hb (Boxed_lt h)
theorem newbox (W : World) : Boxed (W.alloc (Obj.cells #[.string ⟨#[]⟩, .string ⟨#[]⟩] 74)) W.heap.size ⟨#[]⟩ ⟨#[]⟩ := Boxed.new W _ _ _ _ rfl
theorem newbox_dr (W : World) : Boxed (W.alloc (Obj.cells #[.string ⟨#[]⟩, .string ⟨#[]⟩] 74)).drew W.heap.size ⟨#[]⟩ ⟨#[]⟩ := ⟨(newbox W).c0, (newbox W).c1, (newbox W).f0, (newbox W).f1⟩
theorem newbox_dr2 (W : World) : Boxed (W.drew.alloc (Obj.cells #[.string ⟨#[]⟩, .string ⟨#[]⟩] 74)) W.heap.size ⟨#[]⟩ ⟨#[]⟩ := newbox W.drew
theorem Bun1.dr {w W : World} {s : St} {up : Option Addr} {uc x0 : Nat} {c0 : Wd} (h : Bun1 w W s up uc x0 c0) : Bun1 w W.drew s up uc x0 c0 := by
  obtain ⟨h1, h2, h3, h4, h5⟩ := h
  exact ⟨h1, ⟨h2.c0, h2.c1, h2.f0, h2.f1⟩, h3.drew, h4, h5⟩
theorem Bun1.al {w W : World} {s : St} {up : Option Addr} {uc x0 : Nat} {c0 : Wd} (h : Bun1 w W s up uc x0 c0) (o : Obj) : Bun1 w (W.alloc o) s up uc x0 c0 := h.below ((Below.refl _ _).alloc (Nat.le_refl _) o)

set_option maxRecDepth 50000 in
set_option maxHeartbeats 2000000 in
theorem fitsBuffer_any (qs : List (St × Value)) (p : Option Addr) (cap : Nat) (s : St) (up : Option Addr) (uc : Nat) (w : World) (hr : RS w p qs)
    (hu : Reads w (.slice up s.uses.length uc) 1 s.uses.length (ints s.uses)) (hux : ∀ x ∈ s.uses, x < qs.length) (hok : CkOk 1048576 (qs.map Prod.fst)) (hck : Wok 1048576 s.ck) :
    Calls Try.prog 84 #[.slice p qs.length cap, .agg #[.int .i64 s.no, .int .i64 s.kind, .string (S s.name), .slice up s.uses.length uc, .int .i64 s.num, .string (bs s.wd.1), .string (bs s.wd.2), .string (bs s.ck.1), .string (bs s.ck.2)]] w
      fun e w' => e = .returned (.bool (fitBf (qs.map Prod.fst) s)) ∧ Below w.heap.size w w' := by
  have hS := Z1_s w s up uc
  have hbw := Z1_below w s up uc
  have b0 := hS.c 0
  have b1 := hS.c 1
  have b2 := hS.c 2
  have b3 := hS.c 3
  have b4 := hS.c 4
  have b5 := hS.c 5
  have b6 := hS.c 6
  have b7 := hS.c 7
  have b8 := hS.c 8
  simp only [stCells, List.getElem?_cons_zero, List.getElem?_cons_succ] at b0 b1 b2 b3 b4 b5 b6 b7 b8
  obtain ⟨c, hc⟩ : ∃ c, ucL (qs.map Prod.fst) s 0 = c := ⟨_, rfl⟩
  have hcall := usedClock_any qs p cap s up uc 0 (Z1 w s up uc) (by omega) (hr.below hbw (Nat.le_refl _)) (hu.below hbw (Nat.le_refl _)) hux
  rw [hc] at hcall
  have HC : Hid (ucL (qs.map Prod.fst) s 0 = c) := hc
  clear hc hr hu
  go_enter Try.func84, Try.ntmps84
  go_wp2_with fail
  refine hcall.mono ?_
  rintro e w1 ⟨hK, hb1⟩
  unfold CkIs at hK
  subst hK
  have hz := hb1.size
  rw [Z1_size] at hz
  have hB := Bun1.mk1 (c0 := c) (hbw.trans (hb1.mono (by rw [Z1_size]; omega))) (hS.below hb1 (by rw [Z1_size]; omega)) (by omega)
  have HB : Hid (Bun1 w (w1.alloc (Obj.cells #[.string (bs c.1), .string (bs c.2)] 74)) s up uc w1.heap.size c) := hB
  clear hcall b0 b1 b2 b3 b4 b5 b6 b7 b8
  cases hh : c.2.isEmpty with
  | true =>
    have HF : Hid (fitBf (qs.map Prod.fst) s = false) := by show fitBf _ _ = false; unfold fitBf; rw [HC.out]; simp [hasC, hh]
    clear hB
    go_wp2_with (go_at_call 64; refine (None_any c.1 c.2 _).mono ?_; rintro e w2 ⟨hK, hb2⟩; subst hK)
    go_ret
    exact ⟨ret_bool HF.out.symm, (HB.out.below hb2).2.2.1⟩
  | false =>
    have hwc : Wok 1048576 c := by rw [← HC.out]; exact ucL_wok hok s 0 (by rw [HC.out]; simp [hasC, hh])
    have HF : Hid (fitBf (qs.map Prod.fst) s = adB c s.ck) := by show fitBf _ _ = _; unfold fitBf; rw [HC.out]; simp [hasC, hh]
    have hiff := adB_iff hwc.1 hck.1
    have HI : Hid (adB c s.ck = true ↔ AdaptsS (bitAt c.1 c.2) (bitAt s.ck.1 s.ck.2)) := hiff
    clear hB hiff
    go_wp2_with (first
      | (go_at_call 64; refine (None_any c.1 c.2 _).mono ?_; rintro e w2 ⟨hK, hb2⟩; subst hK; have hB2 := HB.out.below hb2; have hBx := hB2; obtain ⟨hS2, ⟨x0, x1, _, _⟩, hbz, hz0, hz1⟩ := hBx; have b0 := hS2.c 0; have b1 := hS2.c 1; have b2 := hS2.c 2; have b3 := hS2.c 3; have b4 := hS2.c 4; have b5 := hS2.c 5; have b6 := hS2.c 6; have b7 := hS2.c 7; have b8 := hS2.c 8; simp only [stCells, List.getElem?_cons_zero, List.getElem?_cons_succ] at b0 b1 b2 b3 b4 b5 b6 b7 b8))
    refine (Size_any c.1 c.2 s.ck.1 s.ck.2 w2 hwc.1 hck.1 hwc.2.1 hwc.2.2 hck.2.1 hck.2.2).mono ?_
    rintro e w3 ⟨⟨sz, r, rfl, HR⟩, hb3⟩
    have HR2 : Hid (r = adB c s.ck) := by
      show r = adB c s.ck
      have h1 := HR.out.1
      have h2 := HI.out
      cases r <;> cases hx : adB c s.ck <;> simp_all
    go_wp2
    go_ret
    exact ⟨ret_bool (by rw [HF.out, HR2.out]), hbz.trans (hb3.mono (by omega))⟩

set_option maxRecDepth 100000 in
set_option maxRecDepth 50000 in
set_option maxHeartbeats 2000000 in
theorem fitsMerge_any (qs : List (St × Value)) (p : Option Addr) (cap : Nat) (s : St) (up : Option Addr) (uc : Nat) (w : World) (hr : RS w p qs)
    (hu : Reads w (.slice up s.uses.length uc) 1 s.uses.length (ints s.uses)) (hux : ∀ x ∈ s.uses, x < qs.length) (hck : Wok 1048576 s.ck) (hwd : Wok 1048576 s.wd) :
    Calls Try.prog 83 #[.slice p qs.length cap, .agg #[.int .i64 s.no, .int .i64 s.kind, .string (S s.name), .slice up s.uses.length uc, .int .i64 s.num, .string (bs s.wd.1), .string (bs s.wd.2), .string (bs s.ck.1), .string (bs s.ck.2)]] w
      fun e w' => e = .returned (.bool (fitMg (qs.map Prod.fst) s)) ∧ Below w.heap.size w w' := by
  have hS := Z1_s w s up uc
  have hbw := Z1_below w s up uc
  have b0 := hS.c 0
  have b1 := hS.c 1
  have b2 := hS.c 2
  have b3 := hS.c 3
  have b4 := hS.c 4
  have b5 := hS.c 5
  have b6 := hS.c 6
  have b7 := hS.c 7
  have b8 := hS.c 8
  simp only [stCells, List.getElem?_cons_zero, List.getElem?_cons_succ] at b0 b1 b2 b3 b4 b5 b6 b7 b8
  obtain ⟨c0, hc0⟩ : ∃ c, ucL (qs.map Prod.fst) s 0 = c := ⟨_, rfl⟩
  obtain ⟨c1, hc1⟩ : ∃ c, ucL (qs.map Prod.fst) s 1 = c := ⟨_, rfl⟩
  have hcall0 : ∀ W, Below w.heap.size w W → _ := fun W hW => usedClock_any qs p cap s up uc 0 W (by omega) (hr.below hW (Nat.le_refl _)) (hu.below hW (Nat.le_refl _)) hux
  have hcall1 : ∀ W, Below w.heap.size w W → _ := fun W hW => usedClock_any qs p cap s up uc 1 W (by omega) (hr.below hW (Nat.le_refl _)) (hu.below hW (Nat.le_refl _)) hux
  rw [hc0] at hcall0
  rw [hc1] at hcall1
  obtain ⟨o1, ho1⟩ : ∃ o, onW s.ck s.wd = o := ⟨_, rfl⟩
  obtain ⟨o2, ho2⟩ : ∃ o, onW s.ck (notW s.wd) = o := ⟨_, rfl⟩
  have HF : Hid (fitMg (qs.map Prod.fst) s = (o1 == c0 && o2 == c1)) := by show fitMg _ _ = _; unfold fitMg; rw [hc0, hc1, ho1, ho2]
  have HO1 : Hid (onW s.ck s.wd = o1) := ho1
  have HO2 : Hid (onW s.ck (notW s.wd) = o2) := ho2
  clear hc0 hc1 hr hu ho1 ho2
  go_enter Try.func83, Try.ntmps83
  go_wp2_with fail
  have hon := On_m s.ck s.wd (Z1 w s up uc) hck hwd
  rw [HO1.out] at hon
  refine hon.mono ?_
  rintro e w1 ⟨⟨hK, _⟩, hb1⟩
  unfold CkIs at hK
  subst hK
  have hz := hb1.size
  rw [Z1_size] at hz
  have hB := Bun1.mk1 (c0 := o1) (hbw.trans (hb1.mono (by rw [Z1_size]; omega))) (hS.below hb1 (by rw [Z1_size]; omega)) (by omega)
  obtain ⟨W2, hW2⟩ : ∃ W2, W2 = w1.alloc (Obj.cells #[.string (bs o1.1), .string (bs o1.2)] 74) := ⟨_, rfl⟩
  rw [← hW2] at hB
  have HB : Hid (Bun1 w W2 s up uc w1.heap.size o1) := hB
  clear hon b0 b1 b2 b3 b4 b5 b6 b7 b8 hS
  clear hB
  go_wp2
  rw [← hW2]
  clear hW2
  obtain ⟨hS2, ⟨x0, x1, _, _⟩, hbz, hz0, hz1⟩ := HB.out
  have b0 := hS2.c 0
  have b1 := hS2.c 1
  have b2 := hS2.c 2
  have b3 := hS2.c 3
  have b4 := hS2.c 4
  have b5 := hS2.c 5
  have b6 := hS2.c 6
  have b7 := hS2.c 7
  have b8 := hS2.c 8
  simp only [stCells, List.getElem?_cons_zero, List.getElem?_cons_succ] at b0 b1 b2 b3 b4 b5 b6 b7 b8
  have hlt0 : w.heap.size < W2.heap.size := hz0
  go_cut [6] from 12 (fun s6 wx => ∃ x6, s6 = .pointer (some ⟨x6, 0, none⟩) ∧ Hid (Bun2 w wx s up uc w1.heap.size o1 x6 o2))
  case first =>
    go_region_with (first
        | (go_at_call 101; refine (Not_m s.wd _ hwd).mono ?_; rintro e w3 ⟨⟨hK, HN⟩, hb3⟩; unfold CkIs at hK; subst hK; have hB3 : Bun1 w w3 s up uc w1.heap.size o1 := (by first | exact Bun1.below HB.out hb3 | exact Bun1.below HB.out.dr hb3 | exact Bun1.below (HB.out.al _) hb3 | exact Bun1.below (HB.out.al _).dr hb3 | exact Bun1.below (HB.out.dr.al _) hb3); have hBx3 := hB3; obtain ⟨hS3, _, _, hz3, _⟩ := hBx3; have d7 : w3.cell? ⟨w.heap.size, 7, none⟩ = some (.string (bs s.ck.1)) := hS3.c 7; have d8 : w3.cell? ⟨w.heap.size, 8, none⟩ = some (.string (bs s.ck.2)) := hS3.c 8; try (have z3 : Boxed w3 W2.heap.size ⟨#[]⟩ ⟨#[]⟩ := (by first | exact (newbox W2).below' hb3 | exact (newbox_dr W2).below' hb3 | exact (newbox_dr2 W2).below' hb3); have z3' := z3; obtain ⟨k0, k1, l0, l1⟩ := z3'))
        | (go_at_call 80; refine (On_m s.ck (notW s.wd) _ hck HN.out).mono ?_; rintro e w4 ⟨⟨hK, hK2⟩, hb4⟩; unfold CkIs at hK; rw [HO2.out] at hK; subst hK; have hz4 := hb4.size; have hB4 : Bun1 w w4 s up uc w1.heap.size o1 := (by first | exact Bun1.below hB3 hb4 | exact Bun1.below (hB3.al _) hb4); (first | (have z4 : Boxed w4 w3.heap.size ⟨#[]⟩ ⟨#[]⟩ := (newbox w3).below' hb4; have z4' := z4; obtain ⟨m0, m1, n0, n1⟩ := z4') | (have z4 : Boxed w4 W2.heap.size ⟨#[]⟩ ⟨#[]⟩ := z3.below' hb4; have z4' := z4; obtain ⟨m0, m1, n0, n1⟩ := z4') | skip)))
    all_goals (go_wp2_with fail; go_meet)
    all_goals (case rel => first | exact ⟨_, rfl, Bun2.mkA hB4⟩ | exact ⟨_, rfl, Bun2.mkB hB4 z4 hz0 hz1⟩ | exact ⟨_, rfl, Bun2.mkB hB4 z4 hB3.2.2.2.1 hB3.2.2.2.2⟩)
  case rest =>
    obtain ⟨x6, rfl, HC⟩ := hcut
    clear b0 b1 b2 b3 b4 b5 b6 b7 b8 x0 x1 HB hS2 hbz
    have hbc : Below w.heap.size w wc := HC.out.2.2.2.1
    have hBc := HC.out
    obtain ⟨hSc, ⟨a0, a1, _, _⟩, ⟨b0, b1, _, _⟩, hbzc, _, _, _⟩ := hBc
    have d0 : wc.cell? ⟨w.heap.size, 0, none⟩ = some (.int .i64 s.no) := hSc.c 0
    have d1 : wc.cell? ⟨w.heap.size, 1, none⟩ = some (.int .i64 s.kind) := hSc.c 1
    have d2 : wc.cell? ⟨w.heap.size, 2, none⟩ = some (.string (S s.name)) := hSc.c 2
    have d3 : wc.cell? ⟨w.heap.size, 3, none⟩ = some (.slice up s.uses.length uc) := hSc.c 3
    have d4 : wc.cell? ⟨w.heap.size, 4, none⟩ = some (.int .i64 s.num) := hSc.c 4
    have d5 : wc.cell? ⟨w.heap.size, 5, none⟩ = some (.string (bs s.wd.1)) := hSc.c 5
    have d6 : wc.cell? ⟨w.heap.size, 6, none⟩ = some (.string (bs s.wd.2)) := hSc.c 6
    have d7 : wc.cell? ⟨w.heap.size, 7, none⟩ = some (.string (bs s.ck.1)) := hSc.c 7
    have d8 : wc.cell? ⟨w.heap.size, 8, none⟩ = some (.string (bs s.ck.2)) := hSc.c 8
    by_cases h1 : o1 = c0
    · subst h1
      by_cases h2 : o2 = c1
      · subst h2
        go_wp2
        go_region_held3 (fun w' => w'.cell? ⟨w.heap.size, 0, none⟩ = some (.int .i64 s.no) ∧ w'.cell? ⟨w.heap.size, 1, none⟩ = some (.int .i64 s.kind) ∧ w'.cell? ⟨w.heap.size, 2, none⟩ = some (.string (S s.name)) ∧ w'.cell? ⟨w.heap.size, 3, none⟩ = some (.slice up s.uses.length uc) ∧ w'.cell? ⟨w.heap.size, 4, none⟩ = some (.int .i64 s.num) ∧ w'.cell? ⟨w.heap.size, 5, none⟩ = some (.string (bs s.wd.1)) ∧ w'.cell? ⟨w.heap.size, 6, none⟩ = some (.string (bs s.wd.2)) ∧ w'.cell? ⟨w.heap.size, 7, none⟩ = some (.string (bs s.ck.1)) ∧ w'.cell? ⟨w.heap.size, 8, none⟩ = some (.string (bs s.ck.2)) ∧ w'.cell? ⟨w1.heap.size, 0, none⟩ = some (.string (bs o1.1)) ∧ w'.cell? ⟨w1.heap.size, 1, none⟩ = some (.string (bs o1.2)) ∧ w'.cell? ⟨x6, 0, none⟩ = some (.string (bs o2.1)) ∧ w'.cell? ⟨x6, 1, none⟩ = some (.string (bs o2.2))) (go_keep)
          (first
              | (go_at_call_of 56 (Value.int IntKind.i64 0); refine (hcall0 wc.drew hbc.drew).mono ?_; rintro e w5 ⟨hK, hb5⟩; unfold CkIs at hK; subst hK; have hb5' : Below wc.heap.size wc w5 := below_undrew (W := wc) hb5; have hB5 := HC.out.below hb5'; have hBx5 := hB5; obtain ⟨hS5, ⟨p0, p1, _, _⟩, ⟨q0, q1, _, _⟩, hbz5, _, _, _⟩ := hBx5; have r0 : w5.cell? ⟨w.heap.size, 0, none⟩ = some (.int .i64 s.no) := hS5.c 0; have r1 : w5.cell? ⟨w.heap.size, 1, none⟩ = some (.int .i64 s.kind) := hS5.c 1; have r2 : w5.cell? ⟨w.heap.size, 2, none⟩ = some (.string (S s.name)) := hS5.c 2; have r3 : w5.cell? ⟨w.heap.size, 3, none⟩ = some (.slice up s.uses.length uc) := hS5.c 3; have r4 : w5.cell? ⟨w.heap.size, 4, none⟩ = some (.int .i64 s.num) := hS5.c 4; have r5 : w5.cell? ⟨w.heap.size, 5, none⟩ = some (.string (bs s.wd.1)) := hS5.c 5; have r6 : w5.cell? ⟨w.heap.size, 6, none⟩ = some (.string (bs s.wd.2)) := hS5.c 6; have r7 : w5.cell? ⟨w.heap.size, 7, none⟩ = some (.string (bs s.ck.1)) := hS5.c 7; have r8 : w5.cell? ⟨w.heap.size, 8, none⟩ = some (.string (bs s.ck.2)) := hS5.c 8)
              | (go_at_call_of 56 (Value.int IntKind.i64 1); refine (hcall1 w5 hB5.2.2.2.1).mono ?_; rintro e w6 ⟨hK, hb6⟩; unfold CkIs at hK; subst hK; have hB6 := hB5.below hb6; have hBx6 := hB6; obtain ⟨hS6, ⟨pp0, pp1, _, _⟩, ⟨qq0, qq1, _, _⟩, hbz6, _, _, _⟩ := hBx6; have rr0 : w6.cell? ⟨w.heap.size, 0, none⟩ = some (.int .i64 s.no) := hS6.c 0; have rr1 : w6.cell? ⟨w.heap.size, 1, none⟩ = some (.int .i64 s.kind) := hS6.c 1; have rr2 : w6.cell? ⟨w.heap.size, 2, none⟩ = some (.string (S s.name)) := hS6.c 2; have rr3 : w6.cell? ⟨w.heap.size, 3, none⟩ = some (.slice up s.uses.length uc) := hS6.c 3; have rr4 : w6.cell? ⟨w.heap.size, 4, none⟩ = some (.int .i64 s.num) := hS6.c 4; have rr5 : w6.cell? ⟨w.heap.size, 5, none⟩ = some (.string (bs s.wd.1)) := hS6.c 5; have rr6 : w6.cell? ⟨w.heap.size, 6, none⟩ = some (.string (bs s.wd.2)) := hS6.c 6; have rr7 : w6.cell? ⟨w.heap.size, 7, none⟩ = some (.string (bs s.ck.1)) := hS6.c 7; have rr8 : w6.cell? ⟨w.heap.size, 8, none⟩ = some (.string (bs s.ck.2)) := hS6.c 8))
        go_wp2
        go_ret
        exact ⟨ret_bool (by rw [HF.out]; simp), hB6.2.2.2.1⟩
      · by_cases h3 : o2.1 = c1.1
        · have gB1 : ((bs o2.1).toList == (bs c1.1).toList) = true := by rw [h3]; simp
          have gB2 : ((bs o2.2).toList == (bs c1.2).toList) = false := bs_beq_false (fun h4 => h2 (Prod.ext h3 h4))
          clear h3
          go_wp2
          go_region_held3 (fun w' => w'.cell? ⟨w.heap.size, 0, none⟩ = some (.int .i64 s.no) ∧ w'.cell? ⟨w.heap.size, 1, none⟩ = some (.int .i64 s.kind) ∧ w'.cell? ⟨w.heap.size, 2, none⟩ = some (.string (S s.name)) ∧ w'.cell? ⟨w.heap.size, 3, none⟩ = some (.slice up s.uses.length uc) ∧ w'.cell? ⟨w.heap.size, 4, none⟩ = some (.int .i64 s.num) ∧ w'.cell? ⟨w.heap.size, 5, none⟩ = some (.string (bs s.wd.1)) ∧ w'.cell? ⟨w.heap.size, 6, none⟩ = some (.string (bs s.wd.2)) ∧ w'.cell? ⟨w.heap.size, 7, none⟩ = some (.string (bs s.ck.1)) ∧ w'.cell? ⟨w.heap.size, 8, none⟩ = some (.string (bs s.ck.2)) ∧ w'.cell? ⟨w1.heap.size, 0, none⟩ = some (.string (bs o1.1)) ∧ w'.cell? ⟨w1.heap.size, 1, none⟩ = some (.string (bs o1.2)) ∧ w'.cell? ⟨x6, 0, none⟩ = some (.string (bs o2.1)) ∧ w'.cell? ⟨x6, 1, none⟩ = some (.string (bs o2.2))) (go_keep)
            (first
                | (go_at_call_of 56 (Value.int IntKind.i64 0); refine (hcall0 wc.drew hbc.drew).mono ?_; rintro e w5 ⟨hK, hb5⟩; unfold CkIs at hK; subst hK; have hb5' : Below wc.heap.size wc w5 := below_undrew (W := wc) hb5; have hB5 := HC.out.below hb5'; have hBx5 := hB5; obtain ⟨hS5, ⟨p0, p1, _, _⟩, ⟨q0, q1, _, _⟩, hbz5, _, _, _⟩ := hBx5; have r0 : w5.cell? ⟨w.heap.size, 0, none⟩ = some (.int .i64 s.no) := hS5.c 0; have r1 : w5.cell? ⟨w.heap.size, 1, none⟩ = some (.int .i64 s.kind) := hS5.c 1; have r2 : w5.cell? ⟨w.heap.size, 2, none⟩ = some (.string (S s.name)) := hS5.c 2; have r3 : w5.cell? ⟨w.heap.size, 3, none⟩ = some (.slice up s.uses.length uc) := hS5.c 3; have r4 : w5.cell? ⟨w.heap.size, 4, none⟩ = some (.int .i64 s.num) := hS5.c 4; have r5 : w5.cell? ⟨w.heap.size, 5, none⟩ = some (.string (bs s.wd.1)) := hS5.c 5; have r6 : w5.cell? ⟨w.heap.size, 6, none⟩ = some (.string (bs s.wd.2)) := hS5.c 6; have r7 : w5.cell? ⟨w.heap.size, 7, none⟩ = some (.string (bs s.ck.1)) := hS5.c 7; have r8 : w5.cell? ⟨w.heap.size, 8, none⟩ = some (.string (bs s.ck.2)) := hS5.c 8)
                | (go_at_call_of 56 (Value.int IntKind.i64 1); refine (hcall1 w5 hB5.2.2.2.1).mono ?_; rintro e w6 ⟨hK, hb6⟩; unfold CkIs at hK; subst hK; have hB6 := hB5.below hb6; have hBx6 := hB6; obtain ⟨hS6, ⟨pp0, pp1, _, _⟩, ⟨qq0, qq1, _, _⟩, hbz6, _, _, _⟩ := hBx6; have rr0 : w6.cell? ⟨w.heap.size, 0, none⟩ = some (.int .i64 s.no) := hS6.c 0; have rr1 : w6.cell? ⟨w.heap.size, 1, none⟩ = some (.int .i64 s.kind) := hS6.c 1; have rr2 : w6.cell? ⟨w.heap.size, 2, none⟩ = some (.string (S s.name)) := hS6.c 2; have rr3 : w6.cell? ⟨w.heap.size, 3, none⟩ = some (.slice up s.uses.length uc) := hS6.c 3; have rr4 : w6.cell? ⟨w.heap.size, 4, none⟩ = some (.int .i64 s.num) := hS6.c 4; have rr5 : w6.cell? ⟨w.heap.size, 5, none⟩ = some (.string (bs s.wd.1)) := hS6.c 5; have rr6 : w6.cell? ⟨w.heap.size, 6, none⟩ = some (.string (bs s.wd.2)) := hS6.c 6; have rr7 : w6.cell? ⟨w.heap.size, 7, none⟩ = some (.string (bs s.ck.1)) := hS6.c 7; have rr8 : w6.cell? ⟨w.heap.size, 8, none⟩ = some (.string (bs s.ck.2)) := hS6.c 8))
          go_wp2
          go_ret
          exact ⟨ret_bool (by rw [HF.out]; simp [h2]), hB6.2.2.2.1⟩
        · have gA : ((bs o2.1).toList == (bs c1.1).toList) = false := bs_beq_false h3
          go_wp2
          go_region_held3 (fun w' => w'.cell? ⟨w.heap.size, 0, none⟩ = some (.int .i64 s.no) ∧ w'.cell? ⟨w.heap.size, 1, none⟩ = some (.int .i64 s.kind) ∧ w'.cell? ⟨w.heap.size, 2, none⟩ = some (.string (S s.name)) ∧ w'.cell? ⟨w.heap.size, 3, none⟩ = some (.slice up s.uses.length uc) ∧ w'.cell? ⟨w.heap.size, 4, none⟩ = some (.int .i64 s.num) ∧ w'.cell? ⟨w.heap.size, 5, none⟩ = some (.string (bs s.wd.1)) ∧ w'.cell? ⟨w.heap.size, 6, none⟩ = some (.string (bs s.wd.2)) ∧ w'.cell? ⟨w.heap.size, 7, none⟩ = some (.string (bs s.ck.1)) ∧ w'.cell? ⟨w.heap.size, 8, none⟩ = some (.string (bs s.ck.2)) ∧ w'.cell? ⟨w1.heap.size, 0, none⟩ = some (.string (bs o1.1)) ∧ w'.cell? ⟨w1.heap.size, 1, none⟩ = some (.string (bs o1.2)) ∧ w'.cell? ⟨x6, 0, none⟩ = some (.string (bs o2.1)) ∧ w'.cell? ⟨x6, 1, none⟩ = some (.string (bs o2.2))) (go_keep)
            (first
                | (go_at_call_of 56 (Value.int IntKind.i64 0); refine (hcall0 wc.drew hbc.drew).mono ?_; rintro e w5 ⟨hK, hb5⟩; unfold CkIs at hK; subst hK; have hb5' : Below wc.heap.size wc w5 := below_undrew (W := wc) hb5; have hB5 := HC.out.below hb5'; have hBx5 := hB5; obtain ⟨hS5, ⟨p0, p1, _, _⟩, ⟨q0, q1, _, _⟩, hbz5, _, _, _⟩ := hBx5; have r0 : w5.cell? ⟨w.heap.size, 0, none⟩ = some (.int .i64 s.no) := hS5.c 0; have r1 : w5.cell? ⟨w.heap.size, 1, none⟩ = some (.int .i64 s.kind) := hS5.c 1; have r2 : w5.cell? ⟨w.heap.size, 2, none⟩ = some (.string (S s.name)) := hS5.c 2; have r3 : w5.cell? ⟨w.heap.size, 3, none⟩ = some (.slice up s.uses.length uc) := hS5.c 3; have r4 : w5.cell? ⟨w.heap.size, 4, none⟩ = some (.int .i64 s.num) := hS5.c 4; have r5 : w5.cell? ⟨w.heap.size, 5, none⟩ = some (.string (bs s.wd.1)) := hS5.c 5; have r6 : w5.cell? ⟨w.heap.size, 6, none⟩ = some (.string (bs s.wd.2)) := hS5.c 6; have r7 : w5.cell? ⟨w.heap.size, 7, none⟩ = some (.string (bs s.ck.1)) := hS5.c 7; have r8 : w5.cell? ⟨w.heap.size, 8, none⟩ = some (.string (bs s.ck.2)) := hS5.c 8)
                | (go_at_call_of 56 (Value.int IntKind.i64 1); refine (hcall1 w5 hB5.2.2.2.1).mono ?_; rintro e w6 ⟨hK, hb6⟩; unfold CkIs at hK; subst hK; have hB6 := hB5.below hb6; have hBx6 := hB6; obtain ⟨hS6, ⟨pp0, pp1, _, _⟩, ⟨qq0, qq1, _, _⟩, hbz6, _, _, _⟩ := hBx6; have rr0 : w6.cell? ⟨w.heap.size, 0, none⟩ = some (.int .i64 s.no) := hS6.c 0; have rr1 : w6.cell? ⟨w.heap.size, 1, none⟩ = some (.int .i64 s.kind) := hS6.c 1; have rr2 : w6.cell? ⟨w.heap.size, 2, none⟩ = some (.string (S s.name)) := hS6.c 2; have rr3 : w6.cell? ⟨w.heap.size, 3, none⟩ = some (.slice up s.uses.length uc) := hS6.c 3; have rr4 : w6.cell? ⟨w.heap.size, 4, none⟩ = some (.int .i64 s.num) := hS6.c 4; have rr5 : w6.cell? ⟨w.heap.size, 5, none⟩ = some (.string (bs s.wd.1)) := hS6.c 5; have rr6 : w6.cell? ⟨w.heap.size, 6, none⟩ = some (.string (bs s.wd.2)) := hS6.c 6; have rr7 : w6.cell? ⟨w.heap.size, 7, none⟩ = some (.string (bs s.ck.1)) := hS6.c 7; have rr8 : w6.cell? ⟨w.heap.size, 8, none⟩ = some (.string (bs s.ck.2)) := hS6.c 8))
          go_wp2
          go_ret
          exact ⟨ret_bool (by rw [HF.out]; simp [h2]), hB6.2.2.2.1⟩
    · by_cases h3 : o1.1 = c0.1
      · have gB1 : ((bs o1.1).toList == (bs c0.1).toList) = true := by rw [h3]; simp
        have gB2 : ((bs o1.2).toList == (bs c0.2).toList) = false := bs_beq_false (fun h4 => h1 (Prod.ext h3 h4))
        clear h3
        go_wp2
        refine wp_region_held_drew (S := (fun w' => w'.cell? ⟨w.heap.size, 0, none⟩ = some (.int .i64 s.no) ∧ w'.cell? ⟨w.heap.size, 1, none⟩ = some (.int .i64 s.kind) ∧ w'.cell? ⟨w.heap.size, 2, none⟩ = some (.string (S s.name)) ∧ w'.cell? ⟨w.heap.size, 3, none⟩ = some (.slice up s.uses.length uc) ∧ w'.cell? ⟨w.heap.size, 4, none⟩ = some (.int .i64 s.num) ∧ w'.cell? ⟨w.heap.size, 5, none⟩ = some (.string (bs s.wd.1)) ∧ w'.cell? ⟨w.heap.size, 6, none⟩ = some (.string (bs s.wd.2)) ∧ w'.cell? ⟨w.heap.size, 7, none⟩ = some (.string (bs s.ck.1)) ∧ w'.cell? ⟨w.heap.size, 8, none⟩ = some (.string (bs s.ck.2)) ∧ w'.cell? ⟨w1.heap.size, 0, none⟩ = some (.string (bs o1.1)) ∧ w'.cell? ⟨w1.heap.size, 1, none⟩ = some (.string (bs o1.2)) ∧ w'.cell? ⟨x6, 0, none⟩ = some (.string (bs o2.1)) ∧ w'.cell? ⟨x6, 1, none⟩ = some (.string (bs o2.2)))) (by kernel_rfl) ?_ (fun hHeld => ?_)
        · go_keep
        refine wpAnyH_take (i := 0) (v := .agg #[.string (bs o1.1), .string (bs o1.2)]) rfl (by kernel_rfl) (by kernel_rfl) (by kernel_rfl) (fun _ _ _ h => h) (Or.inl ⟨by rfl, ?_⟩) hHeld ?_
        · intro w' hSw; (try dsimp only at hSw); go_simp
        simp only [Act.put, List.getElem_toArray, List.getElem_cons_zero, List.setIfInBounds_toArray, List.set_cons_zero, List.set_cons_succ]
        refine wpAnyH_take (i := 1) (v := .slice p qs.length cap) rfl (by kernel_rfl) (by kernel_rfl) (by kernel_rfl) (fun _ _ _ h => h) (Or.inl ⟨by rfl, ?_⟩) hHeld ?_
        · intro w' hSw; (try dsimp only at hSw); go_simp
        simp only [Act.put, List.getElem_toArray, List.getElem_cons_zero, List.getElem_cons_succ, List.setIfInBounds_toArray, List.set_cons_zero, List.set_cons_succ]
        refine wpAnyH_take (i := 2) (v := .agg #[.int .i64 s.no, .int .i64 s.kind, .string (S s.name), .slice up s.uses.length uc, .int .i64 s.num, .string (bs s.wd.1), .string (bs s.wd.2), .string (bs s.ck.1), .string (bs s.ck.2)]) rfl (by kernel_rfl) (by kernel_rfl) (by kernel_rfl) (fun _ _ _ h => h) (Or.inl ⟨by rfl, ?_⟩) hHeld ?_
        · intro w' hSw; (try dsimp only at hSw); go_simp
        simp only [Act.put, List.getElem_toArray, List.getElem_cons_zero, List.getElem_cons_succ, List.setIfInBounds_toArray, List.set_cons_zero, List.set_cons_succ]
        refine wpAnyH_ready (rs := [3]) (by kernel_rfl) (by simp) ?_
        refine AllReadyH.cons (o := _) rfl (fun K hK => ?_) AllReadyH.nil
        go_simp
        refine (hcall0 wc.drew hbc.drew).mono ?_
        rintro e w5 ⟨hK5, hb5⟩
        unfold CkIs at hK5
        subst hK5
        have hb5' : Below wc.heap.size wc w5 := below_undrew (W := wc) hb5
        have hB5 := HC.out.below hb5'
        have hBx5 := hB5
        obtain ⟨hS5, ⟨p0, p1, _, _⟩, ⟨q0, q1, _, _⟩, hbz5, _, _, _⟩ := hBx5
        have r0 : w5.cell? ⟨w.heap.size, 0, none⟩ = some (.int .i64 s.no) := hS5.c 0
        have r1 : w5.cell? ⟨w.heap.size, 1, none⟩ = some (.int .i64 s.kind) := hS5.c 1
        have r2 : w5.cell? ⟨w.heap.size, 2, none⟩ = some (.string (S s.name)) := hS5.c 2
        have r3 : w5.cell? ⟨w.heap.size, 3, none⟩ = some (.slice up s.uses.length uc) := hS5.c 3
        have r4 : w5.cell? ⟨w.heap.size, 4, none⟩ = some (.int .i64 s.num) := hS5.c 4
        have r5 : w5.cell? ⟨w.heap.size, 5, none⟩ = some (.string (bs s.wd.1)) := hS5.c 5
        have r6 : w5.cell? ⟨w.heap.size, 6, none⟩ = some (.string (bs s.wd.2)) := hS5.c 6
        have r7 : w5.cell? ⟨w.heap.size, 7, none⟩ = some (.string (bs s.ck.1)) := hS5.c 7
        have r8 : w5.cell? ⟨w.heap.size, 8, none⟩ = some (.string (bs s.ck.2)) := hS5.c 8
        simp only []
        clear hHeld
        refine hK.out _ _ ?_ (fun hHeld2 => ?_)
        · go_keep
        clear hK K
        refine wpAnyH_take (i := 4) (v := .bool false) rfl (by kernel_rfl) (by kernel_rfl) (by kernel_rfl) (fun _ _ _ h => h) (Or.inl ⟨by rfl, ?_⟩) hHeld2 ?_
        · intro w' hSw; (try dsimp only at hSw); go_simp
        simp only [Act.put, List.getElem_toArray, List.getElem_cons_zero, List.getElem_cons_succ, List.setIfInBounds_toArray, List.set_cons_zero, List.set_cons_succ]
        refine wpAnyH_take (i := 5) (v := .bool false) rfl (by kernel_rfl) (by kernel_rfl) (by kernel_rfl) (fun _ _ _ h => h) (Or.inl ⟨by rfl, ?_⟩) hHeld2 ?_
        · intro w' hSw; (try dsimp only at hSw); go_simp
        simp only [Act.put, List.getElem_toArray, List.getElem_cons_zero, List.getElem_cons_succ, List.setIfInBounds_toArray, List.set_cons_zero, List.set_cons_succ]
        refine wpAnyH_take (i := 6) (v := undef) rfl (by kernel_rfl) (by kernel_rfl) (by kernel_rfl) (fun _ _ _ h => h) (Or.inr ⟨by rfl, rfl⟩) hHeld2 ?_
        simp only [Act.put, List.getElem_toArray, List.getElem_cons_zero, List.getElem_cons_succ, List.setIfInBounds_toArray, List.set_cons_zero, List.set_cons_succ]
        refine wpAnyH_take (i := 7) (v := undef) rfl (by kernel_rfl) (by kernel_rfl) (by kernel_rfl) (fun _ _ _ h => h) (Or.inr ⟨by rfl, rfl⟩) hHeld2 ?_
        simp only [Act.put, List.getElem_toArray, List.getElem_cons_zero, List.getElem_cons_succ, List.setIfInBounds_toArray, List.set_cons_zero, List.set_cons_succ]
        refine wpAnyH_take (i := 8) (v := undef) rfl (by kernel_rfl) (by kernel_rfl) (by kernel_rfl) (fun _ _ _ h => h) (Or.inr ⟨by rfl, rfl⟩) hHeld2 ?_
        simp only [Act.put, List.getElem_toArray, List.getElem_cons_zero, List.getElem_cons_succ, List.setIfInBounds_toArray, List.set_cons_zero, List.set_cons_succ]
        refine wpAnyH_take (i := 9) (v := undef) rfl (by kernel_rfl) (by kernel_rfl) (by kernel_rfl) (fun _ _ _ h => h) (Or.inr ⟨by rfl, rfl⟩) hHeld2 ?_
        simp only [Act.put, List.getElem_toArray, List.getElem_cons_zero, List.getElem_cons_succ, List.setIfInBounds_toArray, List.set_cons_zero, List.set_cons_succ]
        refine wpAnyH_take (i := 10) (v := undef) rfl (by kernel_rfl) (by kernel_rfl) (by kernel_rfl) (fun _ _ _ h => h) (Or.inr ⟨by rfl, rfl⟩) hHeld2 ?_
        simp only [Act.put, List.getElem_toArray, List.getElem_cons_zero, List.getElem_cons_succ, List.setIfInBounds_toArray, List.set_cons_zero, List.set_cons_succ]
        refine wpAnyH_take (i := 11) (v := .bool false) rfl (by kernel_rfl) (by kernel_rfl) (by kernel_rfl) (fun _ _ _ h => h) (Or.inl ⟨by rfl, ?_⟩) hHeld2 ?_
        · intro w' hSw; (try dsimp only at hSw); go_simp
        simp only [Act.put, List.getElem_toArray, List.getElem_cons_zero, List.getElem_cons_succ, List.setIfInBounds_toArray, List.set_cons_zero, List.set_cons_succ]
        refine wpAnyH_take (i := 12) (v := .bool false) rfl (by kernel_rfl) (by kernel_rfl) (by kernel_rfl) (fun _ _ _ h => h) (Or.inl ⟨by rfl, ?_⟩) hHeld2 ?_
        · intro w' hSw; (try dsimp only at hSw); go_simp
        simp only [Act.put, List.getElem_toArray, List.getElem_cons_zero, List.getElem_cons_succ, List.setIfInBounds_toArray, List.set_cons_zero, List.set_cons_succ]
        refine wpAnyH_done (by kernel_rfl) ?_ _
        go_wp2
        go_ret
        exact ⟨ret_bool (by rw [HF.out]; simp [h1]), hB5.2.2.2.1⟩
      · have gA : ((bs o1.1).toList == (bs c0.1).toList) = false := bs_beq_false h3
        go_wp2
        refine wp_region_held_drew (S := (fun w' => w'.cell? ⟨w.heap.size, 0, none⟩ = some (.int .i64 s.no) ∧ w'.cell? ⟨w.heap.size, 1, none⟩ = some (.int .i64 s.kind) ∧ w'.cell? ⟨w.heap.size, 2, none⟩ = some (.string (S s.name)) ∧ w'.cell? ⟨w.heap.size, 3, none⟩ = some (.slice up s.uses.length uc) ∧ w'.cell? ⟨w.heap.size, 4, none⟩ = some (.int .i64 s.num) ∧ w'.cell? ⟨w.heap.size, 5, none⟩ = some (.string (bs s.wd.1)) ∧ w'.cell? ⟨w.heap.size, 6, none⟩ = some (.string (bs s.wd.2)) ∧ w'.cell? ⟨w.heap.size, 7, none⟩ = some (.string (bs s.ck.1)) ∧ w'.cell? ⟨w.heap.size, 8, none⟩ = some (.string (bs s.ck.2)) ∧ w'.cell? ⟨w1.heap.size, 0, none⟩ = some (.string (bs o1.1)) ∧ w'.cell? ⟨w1.heap.size, 1, none⟩ = some (.string (bs o1.2)) ∧ w'.cell? ⟨x6, 0, none⟩ = some (.string (bs o2.1)) ∧ w'.cell? ⟨x6, 1, none⟩ = some (.string (bs o2.2)))) (by kernel_rfl) ?_ (fun hHeld => ?_)
        · go_keep
        refine wpAnyH_take (i := 0) (v := .agg #[.string (bs o1.1), .string (bs o1.2)]) rfl (by kernel_rfl) (by kernel_rfl) (by kernel_rfl) (fun _ _ _ h => h) (Or.inl ⟨by rfl, ?_⟩) hHeld ?_
        · intro w' hSw; (try dsimp only at hSw); go_simp
        simp only [Act.put, List.getElem_toArray, List.getElem_cons_zero, List.setIfInBounds_toArray, List.set_cons_zero, List.set_cons_succ]
        refine wpAnyH_take (i := 1) (v := .slice p qs.length cap) rfl (by kernel_rfl) (by kernel_rfl) (by kernel_rfl) (fun _ _ _ h => h) (Or.inl ⟨by rfl, ?_⟩) hHeld ?_
        · intro w' hSw; (try dsimp only at hSw); go_simp
        simp only [Act.put, List.getElem_toArray, List.getElem_cons_zero, List.getElem_cons_succ, List.setIfInBounds_toArray, List.set_cons_zero, List.set_cons_succ]
        refine wpAnyH_take (i := 2) (v := .agg #[.int .i64 s.no, .int .i64 s.kind, .string (S s.name), .slice up s.uses.length uc, .int .i64 s.num, .string (bs s.wd.1), .string (bs s.wd.2), .string (bs s.ck.1), .string (bs s.ck.2)]) rfl (by kernel_rfl) (by kernel_rfl) (by kernel_rfl) (fun _ _ _ h => h) (Or.inl ⟨by rfl, ?_⟩) hHeld ?_
        · intro w' hSw; (try dsimp only at hSw); go_simp
        simp only [Act.put, List.getElem_toArray, List.getElem_cons_zero, List.getElem_cons_succ, List.setIfInBounds_toArray, List.set_cons_zero, List.set_cons_succ]
        refine wpAnyH_ready (rs := [3]) (by kernel_rfl) (by simp) ?_
        refine AllReadyH.cons (o := _) rfl (fun K hK => ?_) AllReadyH.nil
        go_simp
        refine (hcall0 wc.drew hbc.drew).mono ?_
        rintro e w5 ⟨hK5, hb5⟩
        unfold CkIs at hK5
        subst hK5
        have hb5' : Below wc.heap.size wc w5 := below_undrew (W := wc) hb5
        have hB5 := HC.out.below hb5'
        have hBx5 := hB5
        obtain ⟨hS5, ⟨p0, p1, _, _⟩, ⟨q0, q1, _, _⟩, hbz5, _, _, _⟩ := hBx5
        have r0 : w5.cell? ⟨w.heap.size, 0, none⟩ = some (.int .i64 s.no) := hS5.c 0
        have r1 : w5.cell? ⟨w.heap.size, 1, none⟩ = some (.int .i64 s.kind) := hS5.c 1
        have r2 : w5.cell? ⟨w.heap.size, 2, none⟩ = some (.string (S s.name)) := hS5.c 2
        have r3 : w5.cell? ⟨w.heap.size, 3, none⟩ = some (.slice up s.uses.length uc) := hS5.c 3
        have r4 : w5.cell? ⟨w.heap.size, 4, none⟩ = some (.int .i64 s.num) := hS5.c 4
        have r5 : w5.cell? ⟨w.heap.size, 5, none⟩ = some (.string (bs s.wd.1)) := hS5.c 5
        have r6 : w5.cell? ⟨w.heap.size, 6, none⟩ = some (.string (bs s.wd.2)) := hS5.c 6
        have r7 : w5.cell? ⟨w.heap.size, 7, none⟩ = some (.string (bs s.ck.1)) := hS5.c 7
        have r8 : w5.cell? ⟨w.heap.size, 8, none⟩ = some (.string (bs s.ck.2)) := hS5.c 8
        simp only []
        clear hHeld
        refine hK.out _ _ ?_ (fun hHeld2 => ?_)
        · go_keep
        clear hK K
        refine wpAnyH_take (i := 4) (v := .bool false) rfl (by kernel_rfl) (by kernel_rfl) (by kernel_rfl) (fun _ _ _ h => h) (Or.inl ⟨by rfl, ?_⟩) hHeld2 ?_
        · intro w' hSw; (try dsimp only at hSw); go_simp
        simp only [Act.put, List.getElem_toArray, List.getElem_cons_zero, List.getElem_cons_succ, List.setIfInBounds_toArray, List.set_cons_zero, List.set_cons_succ]
        refine wpAnyH_take (i := 5) (v := .bool false) rfl (by kernel_rfl) (by kernel_rfl) (by kernel_rfl) (fun _ _ _ h => h) (Or.inl ⟨by rfl, ?_⟩) hHeld2 ?_
        · intro w' hSw; (try dsimp only at hSw); go_simp
        simp only [Act.put, List.getElem_toArray, List.getElem_cons_zero, List.getElem_cons_succ, List.setIfInBounds_toArray, List.set_cons_zero, List.set_cons_succ]
        refine wpAnyH_take (i := 6) (v := undef) rfl (by kernel_rfl) (by kernel_rfl) (by kernel_rfl) (fun _ _ _ h => h) (Or.inr ⟨by rfl, rfl⟩) hHeld2 ?_
        simp only [Act.put, List.getElem_toArray, List.getElem_cons_zero, List.getElem_cons_succ, List.setIfInBounds_toArray, List.set_cons_zero, List.set_cons_succ]
        refine wpAnyH_take (i := 7) (v := undef) rfl (by kernel_rfl) (by kernel_rfl) (by kernel_rfl) (fun _ _ _ h => h) (Or.inr ⟨by rfl, rfl⟩) hHeld2 ?_
        simp only [Act.put, List.getElem_toArray, List.getElem_cons_zero, List.getElem_cons_succ, List.setIfInBounds_toArray, List.set_cons_zero, List.set_cons_succ]
        refine wpAnyH_take (i := 8) (v := undef) rfl (by kernel_rfl) (by kernel_rfl) (by kernel_rfl) (fun _ _ _ h => h) (Or.inr ⟨by rfl, rfl⟩) hHeld2 ?_
        simp only [Act.put, List.getElem_toArray, List.getElem_cons_zero, List.getElem_cons_succ, List.setIfInBounds_toArray, List.set_cons_zero, List.set_cons_succ]
        refine wpAnyH_take (i := 9) (v := undef) rfl (by kernel_rfl) (by kernel_rfl) (by kernel_rfl) (fun _ _ _ h => h) (Or.inr ⟨by rfl, rfl⟩) hHeld2 ?_
        simp only [Act.put, List.getElem_toArray, List.getElem_cons_zero, List.getElem_cons_succ, List.setIfInBounds_toArray, List.set_cons_zero, List.set_cons_succ]
        refine wpAnyH_take (i := 10) (v := undef) rfl (by kernel_rfl) (by kernel_rfl) (by kernel_rfl) (fun _ _ _ h => h) (Or.inr ⟨by rfl, rfl⟩) hHeld2 ?_
        simp only [Act.put, List.getElem_toArray, List.getElem_cons_zero, List.getElem_cons_succ, List.setIfInBounds_toArray, List.set_cons_zero, List.set_cons_succ]
        refine wpAnyH_take (i := 11) (v := .bool false) rfl (by kernel_rfl) (by kernel_rfl) (by kernel_rfl) (fun _ _ _ h => h) (Or.inl ⟨by rfl, ?_⟩) hHeld2 ?_
        · intro w' hSw; (try dsimp only at hSw); go_simp
        simp only [Act.put, List.getElem_toArray, List.getElem_cons_zero, List.getElem_cons_succ, List.setIfInBounds_toArray, List.set_cons_zero, List.set_cons_succ]
        refine wpAnyH_take (i := 12) (v := .bool false) rfl (by kernel_rfl) (by kernel_rfl) (by kernel_rfl) (fun _ _ _ h => h) (Or.inl ⟨by rfl, ?_⟩) hHeld2 ?_
        · intro w' hSw; (try dsimp only at hSw); go_simp
        simp only [Act.put, List.getElem_toArray, List.getElem_cons_zero, List.getElem_cons_succ, List.setIfInBounds_toArray, List.set_cons_zero, List.set_cons_succ]
        refine wpAnyH_done (by kernel_rfl) ?_ _
        go_wp2
        go_ret
        exact ⟨ret_bool (by rw [HF.out]; simp [h1]), hB5.2.2.2.1⟩
end Go.Proofs.Ytfbkjopidjojeab

namespace Go.Proofs.Ytfbkjopidjojeab
open Go.RowKit

/-- A step hangs at once on those of the names that it uses, but fby on nothing. -/
def Edge (qs : List St) (a b : Nat) : Prop := ∃ s, qs[a]? = some s ∧ s.kind ≠ 9 ∧ b ∈ s.uses
inductive Reach (qs : List St) (a : Nat) : Nat → Prop
  | one {b : Nat} : Edge qs a b → Reach qs a b
  | more {b c : Nat} : Reach qs a b → Edge qs b c → Reach qs a c
def Hangs (qs : List St) (a : Nat) : Prop := Reach qs a a

theorem Try.info4 : (Try.prog.info? 4).map (fun i => (i.zero, i.size, i.bytes)) = some (some (.bool false), 1, 1) := by kernel_rfl
theorem Try.under115 : Try.prog.underlying 115 = some (.slice 4) := by kernel_rfl
def bools (M : List Bool) : List Value := M.map fun b => .bool b
theorem bools_length (M : List Bool) : (bools M).length = M.length := by simp [bools]

/-- What is known while the steps are gone to. -/
structure HInv (qs : List St) (start n : Nat) (M : List Bool) (X : List Nat) : Prop where
  len : M.length = n
  first : X[0]? = some start
  lt : ∀ x ∈ X, x < n
  reach : ∀ x ∈ X.drop 1, Reach qs start x
  met : ∀ y, M[y]? = some true → y ∈ X.drop 1
  cnt : X.length = 1 + M.count true
theorem HInv.bound {qs : List St} {start n : Nat} {M : List Bool} {X : List Nat} (h : HInv qs start n M X) : X.length ≤ n + 1 := by
  have := List.count_le_length (a := true) (l := M)
  have := h.len; have := h.cnt; omega
theorem HInv.from {qs : List St} {start n : Nat} {M : List Bool} {X : List Nat} (h : HInv qs start n M X) {k : Nat} (hk : k < X.length) {y : Nat} (he : Edge qs X[k] y) : Reach qs start y := by
  cases k with
  | zero =>
    have : X[0] = start := by have := h.first; rw [List.getElem?_eq_getElem hk] at this; injection this
    rw [this] at he; exact .one he
  | succ k =>
    refine .more (h.reach X[k + 1] ?_) he
    have e : X[k + 1] = (X.drop 1)[k]'(by simp; omega) := by simp
    rw [e]; exact List.getElem_mem _
theorem count_set {M : List Bool} {y : Nat} (h : M[y]? = some false) : (M.set y true).count true = M.count true + 1 := by
  induction M generalizing y with
  | nil => simp at h
  | cons a r ih =>
    cases y with
    | zero => simp at h; subst h; simp
    | succ y =>
      have := ih (y := y) (by simpa using h)
      simp only [List.set_cons_succ, List.count_cons] at this ⊢
      omega
theorem HInv.add {qs : List St} {start n : Nat} {M : List Bool} {X : List Nat} (h : HInv qs start n M X) {y : Nat} (hy : y < n) (hm : M[y]? = some false) (hr : Reach qs start y) : HInv qs start n (M.set y true) (X ++ [y]) := by
  have hX : 0 < X.length := by have := h.cnt; omega
  have hd : (X ++ [y]).drop 1 = X.drop 1 ++ [y] := by rw [List.drop_append_of_le_length (by omega)]
  refine ⟨by rw [List.length_set]; exact h.len, by rw [List.getElem?_append_left hX]; exact h.first, fun x hx => ?_, fun x hx => ?_, fun z hz => ?_, by rw [count_set hm]; simp; have := h.cnt; omega⟩
  · rcases List.mem_append.1 hx with hx | hx
    · exact h.lt x hx
    · rw [List.mem_singleton.1 hx]; exact hy
  · rw [hd] at hx
    rcases List.mem_append.1 hx with hx | hx
    · exact h.reach x hx
    · rw [List.mem_singleton.1 hx]; exact hr
  · rw [hd]
    by_cases hzy : z = y
    · subst hzy; simp
    · rw [List.getElem?_set_ne (fun e => hzy e.symm)] at hz
      exact List.mem_append_left _ (h.met z hz)
/-- So many of the steps that were met have been looked at. -/
def Done (qs : List St) (start : Nat) (M : List Bool) (X : List Nat) (k : Nat) : Prop := ∀ j (h : j < X.length), j < k → ∀ y, Edge qs X[j] y → y ≠ start ∧ M[y]? = some true
theorem HInv.none {qs : List St} {start n : Nat} {M : List Bool} {X : List Nat} (h : HInv qs start n M X) (hd : Done qs start M X X.length) : ¬ Hangs qs start := by
  have hX : 0 < X.length := by have := h.cnt; omega
  have h0 : X[0] = start := by have := h.first; rw [List.getElem?_eq_getElem hX] at this; injection this
  have key : ∀ y, Reach qs start y → y ≠ start ∧ M[y]? = some true := by
    intro y hy
    induction hy with
    | one he => exact hd 0 hX hX _ (by rw [h0]; exact he)
    | more _ he ih =>
      rename_i b c _
      have hb := h.met b ih.2
      obtain ⟨i, hi, e⟩ := List.getElem_of_mem hb
      have hi' : i + 1 < X.length := by simp at hi; omega
      have e2 : X[i + 1] = b := by rw [← e]; simp
      exact hd (i + 1) hi' hi' _ (by rw [e2]; exact he)
  intro hh
  exact (key start hh).1 rfl

/-- The memory meanwhile. -/
structure HMem (w : World) (n : Nat) (W : World) (r : Value) (M : List Bool) (X : List Nat) : Prop where
  met : W.ownsRow w.heap.size 4 1 (.slice (some ⟨w.heap.size, 0, none⟩) n n) n (bools M)
  walk : W.ownsRow w.heap.size 3 1 r X.length (ints X)
  bel : Below w.heap.size w W
theorem HMem.alloc {w W : World} {n : Nat} {r : Value} {M : List Bool} {X : List Nat} (h : HMem w n W r M X) (o : Obj) : HMem w n (W.alloc o) r M X := ⟨h.met.alloc o, h.walk.alloc o, h.bel.alloc h.bel.size o⟩
theorem HMem.set {w W : World} {n : Nat} {r : Value} {M : List Bool} {X : List Nat} (h : HMem w n W r M X) (y : Nat) : HMem w n (W.setCell ⟨w.heap.size, y, none⟩ (.bool true)) r (M.set y true) X := by
  obtain ⟨h1, g1⟩ := h.met.stored y (.bool true)
  refine ⟨?_, h.walk.kept g1 (own_ne h.walk h.met (by decide)), h.bel.setCell (Nat.le_refl _) _⟩
  have e : bools (M.set y true) = (bools M).set y (.bool true) := by simp [bools, List.map_set]
  rw [e]; exact h1
theorem HMem.app {w W w' : World} {n : Nat} {r v' : Value} {M : List Bool} {X : List Nat} {y : Nat} {o : Obj} (h : HMem w n W r M X) (hown' : w'.ownsRow w.heap.size 3 1 v' (X.length + 1) (ints X ++ [.int .i64 y])) (hg : (W.alloc o).grownBy w' r.ownBlock) : HMem w n w' v' M (X ++ [y]) := by
  have hm := h.met.alloc o
  have hw := h.walk.alloc o
  refine ⟨hm.kept hg (own_ne hm hw (by decide)), by simpa [ints] using hown', ?_⟩
  exact (h.bel.alloc h.bel.size o).grown hg (by simp; have := h.bel.size; omega) (fun j hj => (h.walk.lt j hj).1)
/-- A step's box stays while rows of another kind are written. -/
theorem StB.grown {w w' : World} {b : Nat} {s : St} {u : Value} {B : Nat} {e : TypeId} {size n : Nat} {v : Value} {xs : List Value} (h : StB w b s u) (ho : w.ownsRow B e size v n xs) (he : e ≠ 76) (hg : w.grownBy w' v.ownBlock) : StB w' b s u := by
  unfold StB at *
  rw [hg.block b (Array.getElem?_eq_some_iff.1 h).1 ?_]; exact h
  intro e1
  rcases ho.2 with ⟨rfl, _⟩ | ⟨g, cap, cur, rfl, _, hh, _⟩
  · simp [Value.ownBlock] at e1
  · simp only [Value.ownBlock, Option.some.injEq] at e1
    have e1 : b = g := e1
    subst e1
    rw [h] at hh
    injection hh with hh
    injection hh with _ h2 _
    exact he h2.symm
theorem HMem.mc {w W : World} {n : Nat} {r : Value} {M : List Bool} {X : List Nat} (h : HMem w n W r M X) {y : Nat} {b : Bool} (hy : M[y]? = some b) (hn : y < n) : W.cell? ⟨w.heap.size, y, none⟩ = some (.bool b) ∧ W.frozen? ⟨w.heap.size, y, none⟩ = false := by
  refine ⟨?_, h.met.frozenAt y⟩
  rw [h.met.cellAt y (by omega)]
  simp [bools, hy]
end Go.Proofs.Ytfbkjopidjojeab

namespace Go.Proofs.Ytfbkjopidjojeab
open Go.RowKit

/-- Whether a step hangs on itself is told. -/
def HangIs (qs : List St) (k : Nat) (e : Ending) : Prop := ∃ r : Bool, e = .returned (.bool r) ∧ Hid (r = true ↔ Hangs qs k)

set_option maxRecDepth 100000 in
set_option maxRecDepth 50000 in
set_option maxHeartbeats 2000000 in
theorem hangs_any (qs : List (St × Value)) (p : Option Addr) (cap : Nat) (start : Nat) (w : World) (hl : qs.length ≤ 24) (hs : start < qs.length) (hr : RS w p qs) (hwf : Wf (qs.map Prod.fst)) :
    Calls Try.prog 62 #[.slice p qs.length cap, .int .i64 start] w fun e w' => HangIs (qs.map Prod.fst) start e ∧ Below w.heap.size w w' := by
  obtain ⟨i0, hi, hz0, hz1, hz2⟩ := info_parts Try.info4
  obtain ⟨j0, hjI, hyI0, hyI1, hyI2⟩ := info_parts Try.info3
  obtain ⟨n, hn⟩ : ∃ n, qs.length = n := ⟨_, rfl⟩
  have HN : Hid (qs.length = n) := hn
  rw [hn] at hl hs ⊢
  obtain ⟨b, rfl, hb, hc⟩ : ∃ b, p = some ⟨b, 0, none⟩ ∧ b < w.heap.size ∧ ∀ k (h : k < qs.length) j, j < 9 → w.cell? ⟨b, k * 9 + j, none⟩ = (stCells qs[k].1 qs[k].2)[j]? := by
    rcases hr.1 with h | h
    · rw [h] at hn; simp at hn; omega
    · exact h
  have HC : Hid (∀ k (h : k < qs.length) j, j < 9 → w.cell? ⟨b, k * 9 + j, none⟩ = (stCells qs[k].1 qs[k].2)[j]?) := hc
  have hmap : (qs.map Prod.fst).length = n := by rw [List.length_map, hn]
  have HM : Hid ((qs.map Prod.fst).length = n) := hmap
  clear hc hn hmap
  go_enter Try.func62, Try.ntmps62
  go_wp2_with (at_make; refine wpList_make_full _ rfl _ _ 115 rfl w.heap.size 4 i0 (.bool false) 1 Try.under115 hi hz0 hz1 .i64 .i64 _ _ n rfl rfl rfl rfl (by rw [hz2]; omega) (by unfold maxLen; omega) (Nat.le_refl _) ?_; intro w1 hown1 hgrow1)
  have hb1 : Below w.heap.size w w1 := (Below.refl _ _).grown hgrow1 (Nat.le_refl _) (fun k hk => by cases hk)
  have hmem : HMem w n (w1.alloc (Obj.cells #[.int .i64 start] 3)) (.slice (some ⟨w1.heap.size, 0, none⟩) 1 1) (List.replicate n false) [start] := by
    refine ⟨?_, ?_, hb1.alloc hb1.size _⟩
    · have e : bools (List.replicate n false) = (madeCells (Value.bool false).cells (n * 1)).toList := by
        rw [Nat.mul_one]
        show _ = (madeCells #[Value.bool false] n).toList
        rw [toList_madeCells_one]; simp [bools]
      rw [e]; exact hown1.alloc _
    · exact World.ownsRow_lit w1 #[.int .i64 start] 1 hb1.size (by unfold maxLen; omega) rfl
  have hinv : HInv (qs.map Prod.fst) start n (List.replicate n false) [start] := by
    refine ⟨by simp, rfl, fun x hx => by rw [List.mem_singleton.1 hx]; exact hs, fun x hx => by simp at hx, fun y hy => ?_, by simp [List.count_replicate]⟩
    rw [List.getElem?_replicate] at hy
    split at hy <;> simp at hy
  have HMEM : Hid _ := hmem
  have HINV : Hid _ := hinv
  clear hmem hinv hown1 hgrow1
  go_wp2
  go_loopw [6, 7] (fun r i wr => ∃ (k : Nat) (M : List Bool) (X : List Nat), i = .int .i64 k ∧ k ≤ X.length ∧ Hid (HInv (qs.map Prod.fst) start n M X) ∧ Hid (Done (qs.map Prod.fst) start M X k) ∧ Hid (HMem w n wr r M X)) (fun _ i _ => n + 1 - (intOf i).toNat)
  case atStart => exact ⟨0, _, _, rfl, Nat.zero_le _, HINV, fun j h hj => by omega, HMEM⟩
  case round =>
    clear HINV HMEM
    obtain ⟨k, M, X, rfl, hk, HI, HD, HMe⟩ := hrel
    have hXb := HI.out.bound
    obtain ⟨g, gc, hge⟩ := own_form HMe.out.walk (by have := HI.out.cnt; omega)
    subst hge
    by_cases hlt : k < X.length
    · obtain ⟨x, hx⟩ : ∃ x, X[k] = x := ⟨_, rfl⟩
      have hxn : x < n := by rw [← hx]; exact HI.out.lt _ (List.getElem_mem _)
      have hxq : x < qs.length := by rw [HN.out]; exact hxn
      have cw : wr.cell? ⟨g, k, none⟩ = some (.int .i64 (x : Int)) := by rw [HMe.out.walk.cellAt k (by omega), ints_get hlt, hx]
      obtain ⟨⟨s, u⟩, hq⟩ : ∃ q, qs[x] = q := ⟨_, rfl⟩
      have hmemq : (s, u) ∈ qs := by rw [← hq]; exact List.getElem_mem _
      have hget : (qs.map Prod.fst)[x]? = some s := by simp [hxq, hq]
      have hbel := HMe.out.bel
      have c0 : wr.cell? ⟨b, x * 9 + 0, none⟩ = (stCells s u)[0]? := by rw [hbel.cell (p := ⟨b, x * 9 + 0, none⟩) hb, HC.out x hxq 0 (by omega), hq]
      have c1 : wr.cell? ⟨b, x * 9 + 1, none⟩ = (stCells s u)[1]? := by rw [hbel.cell (p := ⟨b, x * 9 + 1, none⟩) hb, HC.out x hxq 1 (by omega), hq]
      have c2 : wr.cell? ⟨b, x * 9 + 2, none⟩ = (stCells s u)[2]? := by rw [hbel.cell (p := ⟨b, x * 9 + 2, none⟩) hb, HC.out x hxq 2 (by omega), hq]
      have c3 : wr.cell? ⟨b, x * 9 + 3, none⟩ = (stCells s u)[3]? := by rw [hbel.cell (p := ⟨b, x * 9 + 3, none⟩) hb, HC.out x hxq 3 (by omega), hq]
      have c4 : wr.cell? ⟨b, x * 9 + 4, none⟩ = (stCells s u)[4]? := by rw [hbel.cell (p := ⟨b, x * 9 + 4, none⟩) hb, HC.out x hxq 4 (by omega), hq]
      have c5 : wr.cell? ⟨b, x * 9 + 5, none⟩ = (stCells s u)[5]? := by rw [hbel.cell (p := ⟨b, x * 9 + 5, none⟩) hb, HC.out x hxq 5 (by omega), hq]
      have c6 : wr.cell? ⟨b, x * 9 + 6, none⟩ = (stCells s u)[6]? := by rw [hbel.cell (p := ⟨b, x * 9 + 6, none⟩) hb, HC.out x hxq 6 (by omega), hq]
      have c7 : wr.cell? ⟨b, x * 9 + 7, none⟩ = (stCells s u)[7]? := by rw [hbel.cell (p := ⟨b, x * 9 + 7, none⟩) hb, HC.out x hxq 7 (by omega), hq]
      have c8 : wr.cell? ⟨b, x * 9 + 8, none⟩ = (stCells s u)[8]? := by rw [hbel.cell (p := ⟨b, x * 9 + 8, none⟩) hb, HC.out x hxq 8 (by omega), hq]
      simp only [stCells, List.getElem?_cons_zero, List.getElem?_cons_succ, Nat.add_zero] at c0 c1 c2 c3 c4 c5 c6 c7 c8
      have hrd0 := hr.2 (s, u) hmemq
      have hrd := hrd0
      obtain ⟨_, up, uc, hue, _, hurow⟩ := hrd
      simp only at hue
      subst hue
      have hws := hwf s (List.mem_of_getElem? hget)
      have hul := hws.len
      have hsz := hbel.size
      have HGet : Hid ((qs.map Prod.fst)[x]? = some s) := hget
      have HX : Hid (X[k] = x) := hx
      clear hget hx hrd0
      by_cases h9 : s.kind = 9
      · have hk9 : (s.kind : Int) = 9 := by omega
        have HD2 : Hid (Done (qs.map Prod.fst) start M X (k + 1)) := fun j h hj y he => by
          rcases Nat.lt_or_ge j k with q | q
          · exact HD.out j h q y he
          · have hjk : j = k := by omega
            subst hjk
            obtain ⟨s', h1, h2, _⟩ := he
            rw [HX.out, HGet.out] at h1
            injection h1 with h1
            subst h1
            exact absurd h9 h2
        have HMe2 := HMe.out.alloc
        clear h9
        go_wp2
        go_roundw
        case rel => exact ⟨k + 1, M, X, by go_num, by omega, HI, HD2, HMe2 _⟩
        case measure => simp [intOf]; omega
      · have hk9 : ¬ (s.kind : Int) = 9 := by omega
        obtain ⟨W1, hW1⟩ : ∃ W1, W1 = wr.alloc (Obj.cells #[.int .i64 s.no, .int .i64 s.kind, .string (S s.name), .slice up s.uses.length uc, .int .i64 s.num, .string (bs s.wd.1), .string (bs s.wd.2), .string (bs s.ck.1), .string (bs s.ck.2)] 76) := ⟨_, rfl⟩
        have HS1 : Hid (StB W1 wr.heap.size s (.slice up s.uses.length uc)) := by show StB _ _ _ _; unfold StB; rw [hW1, heap_alloc_new]; rfl
        have HMe2 : Hid (HMem w n W1 (.slice (some ⟨g, 0, none⟩) X.length gc) M X) := by show HMem _ _ _ _ _ _; rw [hW1]; exact HMe.out.alloc _
        have HD1 : Hid (Done (qs.map Prod.fst) start M X k ∧ (∀ i y, i < 0 → s.uses[i]? = some y → y ≠ start ∧ M[y]? = some true) ∧ X[k]? = some x) := ⟨HD.out, fun i y h => by omega, by rw [List.getElem?_eq_getElem hlt, HX.out]⟩
        have H9 : Hid (s.kind ≠ 9) := h9
        have hmm := HMe.out
        clear h9 HD HMe HX
        go_wp2
        rw [← hW1]
        obtain ⟨bx, hbx⟩ : ∃ bx, bx = wr.heap.size := ⟨_, rfl⟩
        rw [← hbx] at HS1 ⊢
        have hbxw : w.heap.size ≤ bx := by omega
        clear hW1 hbx c0 c1 c2 c3 c4 c5 c6 c7 c8 cw hmm hbel hsz
        rename World => W0
        go_loopw [6, 9] (fun r i wr => ∃ (j : Nat) (M' : List Bool) (X' : List Nat), i = .int .i64 j ∧ j ≤ s.uses.length ∧ Hid (HInv (qs.map Prod.fst) start n M' X') ∧ Hid (HMem w n wr r M' X') ∧ Hid (StB wr bx s (.slice up s.uses.length uc)) ∧ Hid (Done (qs.map Prod.fst) start M' X' k ∧ (∀ i y, i < j → s.uses[i]? = some y → y ≠ start ∧ M'[y]? = some true) ∧ X'[k]? = some x)) (fun _ i _ => s.uses.length - (intOf i).toNat)
        case atStart => exact ⟨0, M, X, rfl, Nat.zero_le _, HI, HMe2, HS1, HD1⟩
        case round =>
          clear HMe2 HS1 HD1 HI
          obtain ⟨j, M', X', rfl, hj, HI, HMe, HS, HD⟩ := hrel
          have b3 : wr.cell? ⟨bx, 3, none⟩ = some (.slice up s.uses.length uc) := HS.out.c 3
          by_cases hjl : j < s.uses.length
          · obtain ⟨ub, uo, rfl, hrw⟩ : ∃ b off, up = some ⟨b, off, none⟩ ∧ Row w b off (ints s.uses) := by
              rcases hurow with h | h
              · omega
              · exact h
            obtain ⟨y, hy⟩ : ∃ y, s.uses[j] = y := ⟨_, rfl⟩
            have hyn : y < n := by rw [← hy, ← HM.out]; exact hws.use _ (List.getElem_mem _)
            have cu : wr.cell? ⟨ub, uo + j, none⟩ = some (.int .i64 (y : Int)) := by
              rw [(hrw.below HMe.out.bel hrw.1).2 j (by rw [ints_length]; exact hjl), ints_get hjl, hy]
            have HE : Hid (Edge (qs.map Prod.fst) x y) := ⟨s, HGet.out, H9.out, by rw [← hy]; exact List.getElem_mem _⟩
            have hkX : k < X'.length := by
              rcases Nat.lt_or_ge k X'.length with q | q
              · exact q
              · have := HD.out.2.2; rw [List.getElem?_eq_none q] at this; cases this
            have HR : Hid (Reach (qs.map Prod.fst) start y) := HI.out.from hkX (by
              have := HD.out.2.2
              rw [List.getElem?_eq_getElem hkX] at this
              injection this with this
              rw [this]; exact HE.out)
            have HY : Hid (s.uses[j]? = some y) := by show _ = _; rw [List.getElem?_eq_getElem hjl, hy]
            clear hy hurow
            by_cases hst : y = start
            · have hst2 : (y : Int) = (start : Int) := by omega
              have HH : Hid (Hangs (qs.map Prod.fst) start) := by have := HR.out; rw [hst] at this; exact this
              have hbl := HMe.out.bel
              clear hst
              go_wp2
              go_ret
              exact ⟨⟨true, rfl, by show _ ↔ _; simp [HH.out]⟩, hbl⟩
            · have hst2 : ¬ (y : Int) = (start : Int) := by omega
              have hyM : y < M'.length := by rw [HI.out.len]; exact hyn
              obtain ⟨bb, hbb⟩ : ∃ bb, M'[y]? = some bb := ⟨M'[y], List.getElem?_eq_getElem hyM⟩
              obtain ⟨cm, fm⟩ := HMe.out.mc hbb hyn
              have hjl2 : j + 1 ≤ s.uses.length := hjl
              have hms : s.uses.length - (j + 1) < s.uses.length - j := by omega
              have hzw := HMe.out.bel.size
              cases bb with
              | true =>
                have HD2 : Hid (Done (qs.map Prod.fst) start M' X' k ∧ (∀ i y, i < j + 1 → s.uses[i]? = some y → y ≠ start ∧ M'[y]? = some true) ∧ X'[k]? = some x) := by
                  refine ⟨HD.out.1, fun i z hi hz => ?_, HD.out.2.2⟩
                  rcases Nat.lt_or_ge i j with q | q
                  · exact HD.out.2.1 i z q hz
                  · have : i = j := by omega
                    subst this
                    rw [HY.out] at hz
                    injection hz with hz
                    subst hz
                    exact ⟨hst, hbb⟩
                clear hbb
                go_wp2
                go_roundw
                case rel => exact ⟨j + 1, M', X', by go_num, hjl2, HI, HMe, HS, HD2⟩
                case measure => simpa [intOf] using hms
              | false =>
                have HI2 : Hid (HInv (qs.map Prod.fst) start n (M'.set y true) (X' ++ [y])) := HI.out.add hyn hbb HR.out
                have HMs : Hid (HMem w n (wr.setCell ⟨w.heap.size, y, none⟩ (.bool true)) _ (M'.set y true) X') := HMe.out.set y
                have HSs : Hid (StB (wr.setCell ⟨w.heap.size, y, none⟩ (.bool true)) bx s (.slice (some ⟨ub, uo, none⟩) s.uses.length uc)) := HS.out.grown HMe.out.met (by decide) (HMe.out.met.stored y (.bool true)).2
                have HD2 : Hid (Done (qs.map Prod.fst) start (M'.set y true) (X' ++ [y]) k ∧ (∀ i z, i < j + 1 → s.uses[i]? = some z → z ≠ start ∧ (M'.set y true)[z]? = some true) ∧ (X' ++ [y])[k]? = some x) := by
                  have hmono : ∀ z, M'[z]? = some true → (M'.set y true)[z]? = some true := fun z hz => by
                    by_cases e : y = z
                    · subst e; rw [List.getElem?_set_self hyM]
                    · rw [List.getElem?_set_ne e]; exact hz
                  refine ⟨fun a ha hak z he => ?_, fun i z hi hz => ?_, by rw [List.getElem?_append_left hkX]; exact HD.out.2.2⟩
                  · have hax : a < X'.length := by omega
                    rw [List.getElem_append_left hax] at he
                    have := HD.out.1 a hax hak z he
                    exact ⟨this.1, hmono z this.2⟩
                  · rcases Nat.lt_or_ge i j with q | q
                    · have := HD.out.2.1 i z q hz
                      exact ⟨this.1, hmono z this.2⟩
                    · have : i = j := by omega
                      subst this
                      rw [HY.out] at hz
                      injection hz with hz
                      subst hz
                      exact ⟨hst, by rw [List.getElem?_set_self hyM]⟩
                have hXb2 := HI.out.bound
                have hwalk := HMs.out.walk
                clear hbb
                go_wp2_with (at_builtin; refine wpList_append_own _ rfl _ _ 38 rfl w.heap.size 3 j0 (.int .i64 0) 1 8 Try.under38 hjI hyI0 hyI1 hyI2 rfl (by decide) _ _ _ rfl (hwalk.alloc _) ⟨wr.heap.size, 0, none⟩ 1 1 [.int .i64 y] rfl rfl (cells_new _ _ _ _ (by simp [World.setCell])) (by intro x hx; simp at hx; subst hx; rfl) (by unfold maxLen; omega) (by omega) (by simp [World.setCell]; omega) ?_; intro v' w' hown' hgrow _)
                have R1 := HMs.out.app hown' hgrow
                have R2 : StB w' bx s (.slice (some ⟨ub, uo, none⟩) s.uses.length uc) := (StB.below HSs.out ((Below.refl _ _).alloc (Nat.le_refl _) _) (Array.getElem?_eq_some_iff.1 HSs.out).1).grown (hwalk.alloc _) (by decide) hgrow
                clear hown' hgrow hwalk
                go_wp2
                go_roundw
                case rel => exact ⟨j + 1, _, _, by go_num, hjl2, HI2, R1, R2, HD2⟩
                case measure => simpa [intOf] using hms
          · have HDn : Hid (Done (qs.map Prod.fst) start M' X' (k + 1)) := fun a ha hak z he => by
              rcases Nat.lt_or_ge a k with q | q
              · exact HD.out.1 a ha q z he
              · have hak2 : a = k := by omega
                subst hak2
                have hx2 := HD.out.2.2
                rw [List.getElem?_eq_getElem ha] at hx2
                injection hx2 with hx2
                rw [hx2] at he
                obtain ⟨s', h1, h2, h3⟩ := he
                rw [HGet.out] at h1
                injection h1 with h1
                subst h1
                obtain ⟨i, hi, e⟩ := List.getElem_of_mem h3
                exact HD.out.2.1 i z (by omega) (by rw [List.getElem?_eq_getElem hi, e])
            have hkX : k + 1 ≤ X'.length := by
              rcases Nat.lt_or_ge k X'.length with q | q
              · exact q
              · have := HD.out.2.2; rw [List.getElem?_eq_none q] at this; cases this
            have hXb2 := HI.out.bound
            go_wp2
            go_roundw
            case rel => exact ⟨k + 1, M', X', by go_num, hkX, HI, HDn, HMe⟩
            case measure => simp [intOf]; omega
    · have HE : Hid (¬ Hangs (qs.map Prod.fst) start) := HI.out.none (by rw [show X.length = k by omega]; exact HD.out)
      have hbel := HMe.out.bel
      go_wp2
      go_ret
      exact ⟨⟨false, rfl, by show _ ↔ _; simp [HE.out]⟩, hbel⟩
end Go.Proofs.Ytfbkjopidjojeab

namespace Go.Proofs.Ytfbkjopidjojeab
open Go.RowKit

/-- The first that is bad, as a fault. -/
def firstF (c : Nat) (qs : List St) (bad : Nat → Bool) : Flt := match (List.range qs.length).find? bad with
  | none => (0, 0)
  | some k => (c, ((qs[k]?).map St.no).getD 0)
theorem firstF_none {c : Nat} {qs : List St} {bad : Nat → Bool} (h : ∀ j, j < qs.length → bad j = false) : firstF c qs bad = (0, 0) := by
  have : (List.range qs.length).find? bad = none := by
    rw [List.find?_eq_none]
    intro j hj
    rw [h j (List.mem_range.1 hj)]; simp
  unfold firstF; rw [this]
theorem firstF_some {c : Nat} {qs : List St} {bad : Nat → Bool} {k : Nat} {l : St} (hk : k < qs.length) (hb : ∀ j, j < k → bad j = false) (h : bad k = true) (hl : qs[k]? = some l) : firstF c qs bad = (c, l.no) := by
  have : (List.range qs.length).find? bad = some k := by
    rw [List.find?_range_eq_some]
    exact ⟨h, List.mem_range.2 hk, fun j hj => by rw [hb j hj]; rfl⟩
  unfold firstF; rw [this]; show (c, ((qs[k]?).map St.no).getD 0) = _; rw [hl]; rfl
open Classical in
noncomputable def hangB (qs : List St) (k : Nat) : Bool := decide (Hangs qs k)
theorem hangB_iff (qs : List St) (k : Nat) : hangB qs k = true ↔ Hangs qs k := by unfold hangB; simp
theorem hang_eq {qs : List St} {k : Nat} {r : Bool} (h : r = true ↔ Hangs qs k) : hangB qs k = r := by
  have := hangB_iff qs k
  cases r <;> cases hx : hangB qs k <;> simp_all

set_option maxRecDepth 50000 in
set_option maxHeartbeats 2000000 in
theorem findCause_any (qs : List (St × Value)) (p : Option Addr) (cap : Nat) (w : World) (hl : qs.length ≤ 24) (hr : RS w p qs) (hwf : Wf (qs.map Prod.fst)) :
    Calls Try.prog 43 #[.slice p qs.length cap] w fun e w' => FltIs (firstF 9 (qs.map Prod.fst) (hangB (qs.map Prod.fst))) e ∧ Below w.heap.size w w' := by
  have hf0 := G1_f w
  have HML : Hid ((qs.map Prod.fst).length = qs.length) := by show (qs.map Prod.fst).length = qs.length; simp
  go_enter Try.func43, Try.ntmps43
  go_wp2
  go_loopw [3] (fun i wr => ∃ k : Nat, k ≤ qs.length ∧ i = .int .i64 k ∧ Hid (∀ j, j < k → hangB (qs.map Prod.fst) j = false) ∧ Hid (Below (w.heap.size + 1) (G1 w) wr)) (fun i _ => qs.length - (intOf i).toNat)
  case atStart => exact ⟨0, Nat.zero_le _, rfl, fun j hj => by omega, Below.refl _ _⟩
  case round =>
    obtain ⟨k, hk, rfl, HB, HW⟩ := hrel
    have hnx := HW.out
    have hsz := hnx.size
    rw [G1_size] at hsz
    have hfr := hf0.below hnx (by omega)
    have hbw : Below w.heap.size w wr := (G1_below w).trans (hnx.mono (by omega))
    have hrr := hr.below hbw (Nat.le_refl _)
    by_cases hlt : k < qs.length
    · obtain ⟨b, rfl, hb, hc⟩ : ∃ b, p = some ⟨b, 0, none⟩ ∧ b < wr.heap.size ∧ ∀ k (h : k < qs.length) j, j < 9 → wr.cell? ⟨b, k * 9 + j, none⟩ = (stCells qs[k].1 qs[k].2)[j]? := by
        rcases hrr.1 with h | h
        · rw [h] at hlt; simp at hlt
        · exact h
      have c0 : wr.cell? ⟨b, k * 9, none⟩ = some (.int .i64 qs[k].1.no) := hc k hlt 0 (by omega)
      have hcall := hangs_any qs (some ⟨b, 0, none⟩) cap k wr hl hlt hrr hwf
      clear hc hrr hr
      go_wp2_with fail
      refine hcall.mono ?_
      rintro e w1 ⟨⟨r, rfl, HR⟩, hb1⟩
      have HT0 : Hid (hangB (qs.map Prod.fst) k = r) := hang_eq HR.out
      have c0' : w1.cell? ⟨b, k * 9, none⟩ = some (.int .i64 qs[k].1.no) := by rw [hb1.cell (p := ⟨b, k * 9, none⟩) hb]; exact c0
      obtain ⟨fc0, fc1, ff0, ff1⟩ := (hfr.below hb1 (by omega)).c
      have hz1 := hb1.size
      have hlt1 : w.heap.size < w1.heap.size := by omega
      clear hcall
      cases r with
      | false =>
        have HT : Hid (hangB (qs.map Prod.fst) k = false) := HT0
        go_wp2
        go_roundw
        case rel => exact ⟨k + 1, by omega, by go_num, fun j hj => by
          rcases Nat.lt_or_ge j k with q | q
          · exact HB.out j q
          · have : j = k := by omega
            subst this; exact HT.out, HW.out.trans (hb1.mono (by omega))⟩
        case measure => simp [intOf]; omega
      | true =>
        have HT : Hid (firstF 9 (qs.map Prod.fst) (hangB (qs.map Prod.fst)) = (9, qs[k].1.no)) := firstF_some (by rw [HML.out]; exact hlt) HB.out HT0.out (by simp [hlt])
        go_wp2
        have q0 := ((hfr.below hb1 (by omega)).set 9 qs[k].1.no).c.1
        have q1 := ((hfr.below hb1 (by omega)).set 9 qs[k].1.no).c.2.1
        refine bodyPost_ret (v := .agg #[.int .i64 9, .int .i64 qs[k].1.no]) (by simp [results, Try.results43, go_sem, q0, q1]) rfl ⟨?_, ?_⟩
        · unfold FltIs; rw [HT.out]; rfl
        · exact ((hbw.trans (hb1.mono (by omega))).setCell (Nat.le_refl _) _).setCell (Nat.le_refl _) _
    · have HT : Hid (firstF 9 (qs.map Prod.fst) (hangB (qs.map Prod.fst)) = (0, 0)) := firstF_none (fun j hj => HB.out j (by rw [HML.out] at hj; omega))
      obtain ⟨fc0, fc1, ff0, ff1⟩ := hfr.c
      have hltr : w.heap.size < wr.heap.size := by omega
      clear hr hrr
      go_wp2
      have q0 := (hfr.set 0 0).c.1
      have q1 := (hfr.set 0 0).c.2.1
      refine bodyPost_ret (v := .agg #[.int .i64 0, .int .i64 0]) (by simp [results, Try.results43, go_sem, q0, q1]) rfl ⟨?_, ?_⟩
      · unfold FltIs; rw [HT.out]; rfl
      · exact (hbw.setCell (Nat.le_refl _) _).setCell (Nat.le_refl _) _


set_option maxRecDepth 50000 in
set_option maxHeartbeats 2000000 in
theorem fits_any (qs : List (St × Value)) (p : Option Addr) (cap : Nat) (s : St) (up : Option Addr) (uc : Nat) (w : World) (hr : RS w p qs)
    (hu : Reads w (.slice up s.uses.length uc) 1 s.uses.length (ints s.uses)) (hws : WfS qs.length s) (hok : CkOk 64 (qs.map Prod.fst)) (hck : s.ck.1.length ≤ 64 ∧ s.ck.2.length ≤ 64) :
    Calls Try.prog 67 #[.slice p qs.length cap, .agg #[.int .i64 s.no, .int .i64 s.kind, .string (S s.name), .slice up s.uses.length uc, .int .i64 s.num, .string (bs s.wd.1), .string (bs s.wd.2), .string (bs s.ck.1), .string (bs s.ck.2)]] w
      fun e w' => e = .returned (.bool (fitL (qs.map Prod.fst) s)) ∧ Below w.heap.size w w' := by
  have hS := Z1_s w s up uc
  have hbw := Z1_below w s up uc
  have hz := Z1_size w s up uc
  have hkd := hws.kind
  have b0 := hS.c 0
  have b1 := hS.c 1
  have b2 := hS.c 2
  have b3 := hS.c 3
  have b4 := hS.c 4
  have b5 := hS.c 5
  have b6 := hS.c 6
  have b7 := hS.c 7
  have b8 := hS.c 8
  simp only [stCells, List.getElem?_cons_zero, List.getElem?_cons_succ] at b0 b1 b2 b3 b4 b5 b6 b7 b8
  by_cases h13 : s.kind = 13
  · have HF : Hid (fitL (qs.map Prod.fst) s = true) := by show fitL _ _ = true; simp [fitL, h13]
    have hk : (s.kind : Int) = 13 := by omega
    clear h13 hr hu
    go_enter Try.func67, Try.ntmps67
    go_wp2
    go_ret
    exact ⟨ret_bool HF.out.symm, (Below.refl _ _).alloc (Nat.le_refl _) _⟩
  have hk13 : ¬ (s.kind : Int) = 13 := by omega
  cases hh : s.ck.2.isEmpty with
  | true =>
    have HF : Hid (fitL (qs.map Prod.fst) s = false) := by show fitL _ _ = false; simp [fitL, h13, hasC, hh]
    clear hr hu
    go_enter Try.func67, Try.ntmps67
    go_wp2_with (go_at_call 64; refine (None_any s.ck.1 s.ck.2 _).mono ?_; rintro e w1 ⟨hK, hb1⟩; subst hK)
    go_ret
    exact ⟨ret_bool HF.out.symm, hbw.trans (Below.mono hb1 (by simp))⟩
  | false =>
    have hwk : Wok 1048576 s.ck := ⟨fun e => by rw [e] at hh; simp at hh, by omega, by omega⟩
    have HF0 : Hid (fitL (qs.map Prod.fst) s = if isEv s.kind then fitEv (qs.map Prod.fst) s else if s.kind == 11 then fitMg (qs.map Prod.fst) s else if s.kind == 12 then fitBf (qs.map Prod.fst) s else true) := by show fitL _ _ = _; simp [fitL, h13, hasC, hh]
    have hA := fun (w1 : World) (h : Below w.heap.size w w1) => fitsEven_any qs p cap s up uc w1 (hr.below h (Nat.le_refl _)) (hu.below h (Nat.le_refl _)) hws.len hws.use
    have hB := fun (hx : s.kind = 11) (w1 : World) (h : Below w.heap.size w w1) => fitsMerge_any qs p cap s up uc w1 (hr.below h (Nat.le_refl _)) (hu.below h (Nat.le_refl _)) hws.use hwk ⟨hws.has (.inr (.inl hx)), by have := hws.wd; omega, by have := hws.wd; omega⟩
    have hC := fun (w1 : World) (h : Below w.heap.size w w1) => fitsBuffer_any qs p cap s up uc w1 (hr.below h (Nat.le_refl _)) (hu.below h (Nat.le_refl _)) hws.use (hok.mono (by omega)) hwk
    clear hr hu
    have hrest : ∀ w1, Below (Z1 w s up uc).heap.size (Z1 w s up uc) w1 → StB w1 w.heap.size s (.slice up s.uses.length uc) ∧ Below w.heap.size w w1 := fun w1 h => ⟨hS.below h (by rw [hz]; omega), hbw.trans (h.mono (by rw [hz]; omega))⟩
    have NA : Hid (∀ w1, Below (Z1 w s up uc).heap.size (Z1 w s up uc) w1 → StB w1 w.heap.size s (.slice up s.uses.length uc) ∧ Below w.heap.size w w1) := hrest
    clear hrest h13
    cases hev : isEv s.kind with
    | true =>
      have HF : Hid (fitL (qs.map Prod.fst) s = fitEv (qs.map Prod.fst) s) := by show fitL _ _ = _; rw [HF0.out, hev]; rfl
      go_enter Try.func67, Try.ntmps67
      go_wp2_with (first
        | (go_at_call 64; refine (None_any s.ck.1 s.ck.2 _).mono ?_; rintro e w1 ⟨hK, hb1⟩; subst hK; rw [hh]; obtain ⟨hS1, hbw1⟩ := NA.out w1 hb1; have d0 := hS1.c 0; have d1 := hS1.c 1; have d2 := hS1.c 2; have d3 := hS1.c 3; have d4 := hS1.c 4; have d5 := hS1.c 5; have d6 := hS1.c 6; have d7 := hS1.c 7; have d8 := hS1.c 8; simp only [stCells, List.getElem?_cons_zero, List.getElem?_cons_succ] at d0 d1 d2 d3 d4 d5 d6 d7 d8)
        | (go_at_call 78; refine (isEven_any s.kind _ (by omega)).mono ?_; rintro e w2 ⟨hE, hw2⟩; rw [hev] at hE; subst hE; subst w2))
      refine (hA w1 hbw1).mono ?_
      rintro e w3 ⟨rfl, hb3⟩
      go_wp2
      go_ret
      exact ⟨ret_bool HF.out.symm, hbw1.trans (hb3.mono hbw1.size)⟩
    | false =>
      by_cases h11 : s.kind = 11
      · have HF : Hid (fitL (qs.map Prod.fst) s = fitMg (qs.map Prod.fst) s) := by show fitL _ _ = _; rw [HF0.out, hev, h11]; rfl
        have hB2 := hB h11
        have hk11 : ((s.kind : Int) == 11) = true := by simp; omega
        clear h11 hB hA hC
        go_enter Try.func67, Try.ntmps67
        go_wp2_with (first
          | (go_at_call 64; refine (None_any s.ck.1 s.ck.2 _).mono ?_; rintro e w1 ⟨hK, hb1⟩; subst hK; rw [hh]; obtain ⟨hS1, hbw1⟩ := NA.out w1 hb1; have d0 := hS1.c 0; have d1 := hS1.c 1; have d2 := hS1.c 2; have d3 := hS1.c 3; have d4 := hS1.c 4; have d5 := hS1.c 5; have d6 := hS1.c 6; have d7 := hS1.c 7; have d8 := hS1.c 8; simp only [stCells, List.getElem?_cons_zero, List.getElem?_cons_succ] at d0 d1 d2 d3 d4 d5 d6 d7 d8)
          | (go_at_call 78; refine (isEven_any s.kind _ (by omega)).mono ?_; rintro e w2 ⟨hE, hw2⟩; rw [hev] at hE; subst hE; subst w2))
        refine (hB2 w1 hbw1).mono ?_
        rintro e w3 ⟨rfl, hb3⟩
        go_wp2
        go_ret
        exact ⟨ret_bool HF.out.symm, hbw1.trans (hb3.mono hbw1.size)⟩
      by_cases h12 : s.kind = 12
      · have HF : Hid (fitL (qs.map Prod.fst) s = fitBf (qs.map Prod.fst) s) := by show fitL _ _ = _; rw [HF0.out, hev, h12]; rfl
        have hk12 : ((s.kind : Int) == 12) = true := by simp; omega
        have hk11 : ((s.kind : Int) == 11) = false := by simp; omega
        clear h12 hB hA h11
        go_enter Try.func67, Try.ntmps67
        go_wp2_with (first
          | (go_at_call 64; refine (None_any s.ck.1 s.ck.2 _).mono ?_; rintro e w1 ⟨hK, hb1⟩; subst hK; rw [hh]; obtain ⟨hS1, hbw1⟩ := NA.out w1 hb1; have d0 := hS1.c 0; have d1 := hS1.c 1; have d2 := hS1.c 2; have d3 := hS1.c 3; have d4 := hS1.c 4; have d5 := hS1.c 5; have d6 := hS1.c 6; have d7 := hS1.c 7; have d8 := hS1.c 8; simp only [stCells, List.getElem?_cons_zero, List.getElem?_cons_succ] at d0 d1 d2 d3 d4 d5 d6 d7 d8)
          | (go_at_call 78; refine (isEven_any s.kind _ (by omega)).mono ?_; rintro e w2 ⟨hE, hw2⟩; rw [hev] at hE; subst hE; subst w2))
        refine (hC w1 hbw1).mono ?_
        rintro e w3 ⟨rfl, hb3⟩
        go_wp2
        go_ret
        exact ⟨ret_bool HF.out.symm, hbw1.trans (hb3.mono hbw1.size)⟩
      · have HF : Hid (fitL (qs.map Prod.fst) s = true) := by show fitL _ _ = _; rw [HF0.out, hev, beq_eq_false_iff_ne.2 h11, beq_eq_false_iff_ne.2 h12]; rfl
        have hk11 : ¬ (s.kind : Int) = 11 := by omega
        have hk12 : ¬ (s.kind : Int) = 12 := by omega
        clear h12 hB hA hC h11
        go_enter Try.func67, Try.ntmps67
        go_wp2_with (first
          | (go_at_call 64; refine (None_any s.ck.1 s.ck.2 _).mono ?_; rintro e w1 ⟨hK, hb1⟩; subst hK; rw [hh]; obtain ⟨hS1, hbw1⟩ := NA.out w1 hb1; have d0 := hS1.c 0; have d1 := hS1.c 1; have d2 := hS1.c 2; have d3 := hS1.c 3; have d4 := hS1.c 4; have d5 := hS1.c 5; have d6 := hS1.c 6; have d7 := hS1.c 7; have d8 := hS1.c 8; simp only [stCells, List.getElem?_cons_zero, List.getElem?_cons_succ] at d0 d1 d2 d3 d4 d5 d6 d7 d8)
          | (go_at_call 78; refine (isEven_any s.kind _ (by omega)).mono ?_; rintro e w2 ⟨hE, hw2⟩; rw [hev] at hE; subst hE; subst w2))
        go_ret
        exact ⟨ret_bool HF.out.symm, hbw1⟩

/-- Does the step at this place fit not? -/
def badFit (qs : List St) (k : Nat) : Bool := match qs[k]? with
  | none => false
  | some s => !fitL qs s

set_option maxRecDepth 50000 in
set_option maxHeartbeats 2000000 in
theorem findUnfit_any (qs : List (St × Value)) (p : Option Addr) (cap : Nat) (w : World) (_hl : qs.length ≤ 24) (hr : RS w p qs) (hwf : Wf (qs.map Prod.fst)) (hok : CkOk 64 (qs.map Prod.fst)) :
    Calls Try.prog 45 #[.slice p qs.length cap] w fun e w' => FltIs (firstF 10 (qs.map Prod.fst) (badFit (qs.map Prod.fst))) e ∧ Below w.heap.size w w' := by
  have hf0 := G1_f w
  have HML : Hid ((qs.map Prod.fst).length = qs.length) := by show (qs.map Prod.fst).length = qs.length; simp
  go_enter Try.func45, Try.ntmps45
  go_wp2
  go_loopw [3] (fun i wr => ∃ k : Nat, k ≤ qs.length ∧ i = .int .i64 k ∧ Hid (∀ j, j < k → badFit (qs.map Prod.fst) j = false) ∧ Hid (Below (w.heap.size + 1) (G1 w) wr)) (fun i _ => qs.length - (intOf i).toNat)
  case atStart => exact ⟨0, Nat.zero_le _, rfl, fun j hj => by omega, Below.refl _ _⟩
  case round =>
    obtain ⟨k, hk, rfl, HB, HW⟩ := hrel
    have hnx := HW.out
    have hsz := hnx.size
    rw [G1_size] at hsz
    have hfr := hf0.below hnx (by omega)
    have hbw : Below w.heap.size w wr := (G1_below w).trans (hnx.mono (by omega))
    have hrr := hr.below hbw (Nat.le_refl _)
    by_cases hlt : k < qs.length
    · obtain ⟨b, rfl, hb, hc⟩ : ∃ b, p = some ⟨b, 0, none⟩ ∧ b < wr.heap.size ∧ ∀ k (h : k < qs.length) j, j < 9 → wr.cell? ⟨b, k * 9 + j, none⟩ = (stCells qs[k].1 qs[k].2)[j]? := by
        rcases hrr.1 with h | h
        · rw [h] at hlt; simp at hlt
        · exact h
      obtain ⟨⟨s, u⟩, hq⟩ : ∃ q, qs[k] = q := ⟨_, rfl⟩
      have hmem : (s, u) ∈ qs := by rw [← hq]; exact List.getElem_mem _
      have hget : (qs.map Prod.fst)[k]? = some s := by simp [hlt, hq]
      have c0 := hc k hlt 0 (by omega)
      have c1 := hc k hlt 1 (by omega)
      have c2 := hc k hlt 2 (by omega)
      have c3 := hc k hlt 3 (by omega)
      have c4 := hc k hlt 4 (by omega)
      have c5 := hc k hlt 5 (by omega)
      have c6 := hc k hlt 6 (by omega)
      have c7 := hc k hlt 7 (by omega)
      have c8 := hc k hlt 8 (by omega)
      rw [hq] at c0 c1 c2 c3 c4 c5 c6 c7 c8
      simp only [stCells, List.getElem?_cons_zero, List.getElem?_cons_succ, Nat.add_zero] at c0 c1 c2 c3 c4 c5 c6 c7 c8
      have hrd0 := hrr.2 (s, u) hmem
      have hrd := hrd0
      obtain ⟨_, up, uc, hue, _, _⟩ := hrd
      simp only at hue
      subst hue
      have hws := hwf s (List.mem_of_getElem? hget)
      rw [HML.out] at hws
      have hcall := fits_any qs (some ⟨b, 0, none⟩) cap s up uc wr hrr hrd0 hws hok (hok s (List.mem_of_getElem? hget))
      have HT0 : Hid (badFit (qs.map Prod.fst) k = !fitL (qs.map Prod.fst) s) := by show badFit _ _ = _; unfold badFit; rw [hget]
      have HGet : Hid ((qs.map Prod.fst)[k]? = some s) := hget
      clear hc hrr hr hget hq hrd0
      go_wp2_with fail
      refine hcall.mono ?_
      rintro e w1 ⟨rfl, hb1⟩
      have c0' : w1.cell? ⟨b, k * 9, none⟩ = some (.int .i64 s.no) := by rw [hb1.cell (p := ⟨b, k * 9, none⟩) hb]; exact c0
      obtain ⟨fc0, fc1, ff0, ff1⟩ := (hfr.below hb1 (by omega)).c
      have hz1 := hb1.size
      have hlt1 : w.heap.size < w1.heap.size := by omega
      clear hcall c0 c1 c2 c3 c4 c5 c6 c7 c8
      cases hfit : fitL (qs.map Prod.fst) s with
      | true =>
        have HT : Hid (badFit (qs.map Prod.fst) k = false) := by show badFit _ _ = _; rw [HT0.out, hfit]; rfl
        go_wp2
        go_roundw
        case rel => exact ⟨k + 1, by omega, by go_num, fun j hj => by
          rcases Nat.lt_or_ge j k with q | q
          · exact HB.out j q
          · have : j = k := by omega
            subst this; exact HT.out, HW.out.trans (hb1.mono (by omega))⟩
        case measure => simp [intOf]; omega
      | false =>
        have HT : Hid (firstF 10 (qs.map Prod.fst) (badFit (qs.map Prod.fst)) = (10, s.no)) := firstF_some (by rw [HML.out]; exact hlt) HB.out (by rw [HT0.out, hfit]; rfl) HGet.out
        go_wp2
        have q0 := ((hfr.below hb1 (by omega)).set 10 s.no).c.1
        have q1 := ((hfr.below hb1 (by omega)).set 10 s.no).c.2.1
        refine bodyPost_ret (v := .agg #[.int .i64 10, .int .i64 s.no]) (by simp [results, Try.results45, go_sem, q0, q1]) rfl ⟨?_, ?_⟩
        · unfold FltIs; rw [HT.out]; rfl
        · exact ((hbw.trans (hb1.mono (by omega))).setCell (Nat.le_refl _) _).setCell (Nat.le_refl _) _
    · have HT : Hid (firstF 10 (qs.map Prod.fst) (badFit (qs.map Prod.fst)) = (0, 0)) := firstF_none (fun j hj => HB.out j (by rw [HML.out] at hj; omega))
      obtain ⟨fc0, fc1, ff0, ff1⟩ := hfr.c
      have hltr : w.heap.size < wr.heap.size := by omega
      clear hr hrr
      go_wp2
      have q0 := (hfr.set 0 0).c.1
      have q1 := (hfr.set 0 0).c.2.1
      refine bodyPost_ret (v := .agg #[.int .i64 0, .int .i64 0]) (by simp [results, Try.results45, go_sem, q0, q1]) rfl ⟨?_, ?_⟩
      · unfold FltIs; rw [HT.out]; rfl
      · exact (hbw.setCell (Nat.le_refl _) _).setCell (Nat.le_refl _) _
end Go.Proofs.Ytfbkjopidjojeab

namespace Go.Proofs.Ytfbkjopidjojeab
open Go.RowKit

/-- What Make gives, by the model. -/
noncomputable def makeF (ls : List Ln) : Except Flt (List St) :=
  if (twF ls).1 = 0 then match linkL ls ls with
    | .error f => .error f
    | .ok qs => if (firstF 9 qs (hangB qs)).1 = 0 then match solveL (qs.length + 1) (qs.map give) with
        | .error f => .error f
        | .ok rs => if (firstF 10 rs (badFit rs)).1 = 0 then .ok rs else .error (firstF 10 rs (badFit rs))
      else .error (firstF 9 qs (hangB qs))
  else .error (twF ls)
def MakeIs (B : Nat) (o : Except Flt (List St)) (e : Ending) (w' : World) : Prop :=
  (∃ f : Flt, o = .error f ∧ e = .returned (.tuple #[.slice none 0 0, .agg #[.int .i64 f.1, .int .i64 f.2]])) ∨
  ∃ qs v, o = .ok (qs.map Prod.fst) ∧ e = .returned (.tuple #[v, .agg #[.int .i64 0, .int .i64 0]]) ∧ StepsAt w' B v qs

/-- What Make keeps. -/
def MK (w W : World) (fv : Nat) (x y : Int) : Prop := FltB W w.heap.size 0 0 ∧ FltB W fv x y ∧ Below w.heap.size w W ∧ w.heap.size < fv ∧ fv < W.heap.size
theorem MK.below {w W W' : World} {fv : Nat} {x y : Int} {B : Nat} (h : MK w W fv x y) (hb : Below B W W') (hB : fv < B) : MK w W' fv x y := by
  obtain ⟨h1, h2, h3, h4, h5⟩ := h
  exact ⟨h1.below hb (by omega), h2.below hb hB, h3.trans (hb.mono (by omega)), h4, Nat.lt_of_lt_of_le h5 hb.size⟩
theorem MK.new {w w1 : World} {x y : Int} (h1 : FltB w1 w.heap.size 0 0) (h3 : Below w.heap.size w w1) (hz : w.heap.size < w1.heap.size) : MK w (w1.alloc (Obj.cells #[.int .i64 x, .int .i64 y] 30)) w1.heap.size x y := by
  have hA : Below w1.heap.size w1 (w1.alloc (Obj.cells #[.int .i64 x, .int .i64 y] 30)) := (Below.refl _ _).alloc (Nat.le_refl _) _
  exact ⟨h1.below hA hz, by unfold FltB; rw [heap_alloc_new], h3.trans (hA.mono (by omega)), hz, by simp⟩
theorem MK.set {w W : World} {fv : Nat} {x y : Int} (h : MK w W fv x y) (x' y' : Int) : MK w ((W.setCell ⟨fv, 0, none⟩ (.int .i64 x')).setCell ⟨fv, 1, none⟩ (.int .i64 y')) fv x' y' := by
  obtain ⟨h1, h2, h3, h4, h5⟩ := h
  exact ⟨(h1.other (by omega) _).other (by omega) _, h2.set x' y', (h3.setCell (by show w.heap.size ≤ fv; omega) _).setCell (by show w.heap.size ≤ fv; omega) _, h4, by simp [World.setCell]; exact h5⟩
theorem StepsAt.keep {w : World} {B : Nat} {v : Value} {qs : List (St × Value)} (h : StepsAt w B v qs) {b : Nat} (hb : b < B) (x' y' : Value) : StepsAt ((w.setCell ⟨b, 0, none⟩ x').setCell ⟨b, 1, none⟩ y') B v qs :=
  ⟨ownsRow_setCell_below (ownsRow_setCell_below h.1 hb _) hb _, fun p hp => ownsRow_setCell_below (ownsRow_setCell_below (h.2 p hp) hb _) hb _⟩
theorem pass_err {n : Nat} : ∀ {qs : List St} {k : Nat} {m : Bool} {f : Flt}, pass n qs k m = .error f → f.1 = 2 := by
  induction n with
  | zero => intro qs k m f h; simp [pass] at h
  | succ n ih =>
    intro qs k m f h
    rw [pass] at h
    cases ht : tick qs k m with
    | error g =>
      rw [ht] at h
      cases h
      unfold tick at ht
      split at ht
      · cases ht
      · split at ht
        · cases ht
        · split at ht
          · cases ht; rfl
          · split at ht <;> cases ht
    | ok r => rw [ht] at h; exact ih h
theorem solve_err {n : Nat} : ∀ {qs : List St} {f : Flt}, solveL n qs = .error f → f.1 = 2 := by
  induction n with
  | zero => intro qs f h; simp [solveL] at h
  | succ n ih =>
    intro qs f h
    rw [solveL] at h
    cases hp : pass qs.length qs 0 false with
    | error g => rw [hp] at h; cases h; exact pass_err hp
    | ok r =>
      rw [hp] at h
      simp only at h
      split at h
      · exact ih h
      · cases h
theorem link_err {all : List Ln} : ∀ {ls : List Ln} {f : Flt}, linkL all ls = .error f → f.1 = 8 := by
  intro ls
  induction ls with
  | nil => intro f h; simp [linkL] at h
  | cons l ls ih =>
    intro f h
    rw [linkL] at h
    cases hs : stepL all l with
    | none => rw [hs] at h; cases h; rfl
    | some s =>
      rw [hs] at h
      simp only at h
      cases hl : linkL all ls with
      | error g => rw [hl] at h; cases h; exact ih hl
      | ok r => rw [hl] at h; cases h

theorem findClocks_both (qs : List (St × Value)) (O : List St) (vp : Option Addr) (vc B : Nat) (w : World) (hO : (qs.map Prod.fst).map give = O) (hl : qs.length ≤ 24) (hat : StepsAt w B (.slice vp qs.length vc) qs) (hB : B ≤ w.heap.size) (hwf : Wf (qs.map Prod.fst)) (hok : CkOk 64 (qs.map Prod.fst)) :
    Calls Try.prog 44 #[.slice vp qs.length vc] w fun e w' => FindIs B (.slice vp qs.length vc) (solveL (qs.length + 1) O) e w' ∧ Below B w w' := by
  by_cases h0 : qs.length = 0
  · have hq : qs = [] := List.length_eq_zero_iff.1 h0
    subst hq
    subst hO
    refine (findClocks_nil vp vc w).mono ?_
    rintro e w' ⟨h1, h2⟩
    exact ⟨.inr ⟨[], rfl, h1, hat.below h2, hok, hwf⟩, h2.mono hB⟩
  · obtain ⟨g, gc, hge⟩ := own_form hat.1 (by omega)
    injection hge with e1 e2 e3
    subst e1
    exact findClocks_any qs O B g vc qs.length w hO (by omega) hl rfl hat hB hwf hok

set_option maxRecDepth 50000 in
set_option maxHeartbeats 2000000 in
theorem Make_any (ps : List (Ln × Value)) (p : Option Addr) (cap : Nat) (w : World) (hl : ps.length ≤ 24) (hcap : ps.length ≤ cap) (hu : ∀ q ∈ ps, q.1.uses.length ≤ 1048575) (hr : RL w p ps)
    (hwf : ∀ qs, linkL (ps.map Prod.fst) (ps.map Prod.fst) = .ok qs → Wf qs ∧ CkOk 64 qs ∧ qs.length = ps.length) :
    Calls Try.prog 31 #[.slice p ps.length cap] w fun e w' => MakeIs w.heap.size (makeF (ps.map Prod.fst)) e w' ∧ Below w.heap.size w w' := by
  have hf0 := G1_f w
  have hg := G1_below w
  have hgz := G1_size w
  have hc1 := findTwice_any ps p cap (G1 w) (by omega) hcap (hr.below hg (Nat.le_refl _))
  obtain ⟨ls, hls⟩ : ∃ ls, ps.map Prod.fst = ls := ⟨_, rfl⟩
  have hlk := fun (W : World) (h : Below w.heap.size w W) => link_any ps p cap W hl (fun q hq => by have := hu q hq; omega) (hr.below h (Nat.le_refl _))
  rw [hls] at hc1 hlk hwf ⊢
  have HM : Hid (makeF ls = makeF ls) := rfl
  clear hr hls hu
  obtain ⟨f1, hf1⟩ : ∃ f, twF ls = f := ⟨_, rfl⟩
  rw [hf1] at hc1
  have HF1 : Hid (twF ls = f1) := hf1
  clear hf1
  go_enter Try.func31, Try.ntmps31
  go_wp2_with fail
  refine hc1.mono ?_
  rintro e w1 ⟨hK, hb1⟩
  unfold FltIs at hK
  subst hK
  have hz1 := hb1.size
  rw [hgz] at hz1
  have hm := MK.new (x := f1.1) (y := f1.2) (hf0.below hb1 (by rw [hgz]; omega)) (hg.trans (hb1.mono (by rw [hgz]; omega))) (by omega)
  obtain ⟨W1, hW1⟩ : ∃ W1, W1 = w1.alloc (Obj.cells #[.int .i64 f1.1, .int .i64 f1.2] 30) := ⟨_, rfl⟩
  clear hc1
  by_cases h1 : f1.1 = 0
  case neg =>
    have hE : makeF ls = .error f1 := by unfold makeF; rw [HF1.out, if_neg h1]
    have HE : Hid (makeF ls = .error f1) := hE
    have hn1 : ¬ (f1.1 : Int) = 0 := by omega
    have hfw1 := hf0.below hb1 (by rw [hgz]; omega)
    obtain ⟨c0, c1, g0, g1⟩ := hfw1.c
    have hltw : w.heap.size < w1.heap.size := by omega
    clear hE h1
    go_wp2
    go_region
    go_wp2
    have hq := (hfw1.set f1.1 f1.2).below ((Below.refl _ _).alloc (Nat.le_refl _) (Obj.cells #[Value.int IntKind.i64 f1.1, Value.int IntKind.i64 f1.2] 30)) (by simpa [World.setCell] using hltw)
    obtain ⟨q0, q1, _, _⟩ := FltB.c (w := (((w1.setCell ⟨w.heap.size, 0, none⟩ (.int .i64 f1.1)).setCell ⟨w.heap.size, 1, none⟩ (.int .i64 f1.2)).alloc (Obj.cells #[Value.int IntKind.i64 f1.1, Value.int IntKind.i64 f1.2] 30)).drew) hq
    refine bodyPost_ret (v := .tuple #[.slice none 0 0, .agg #[.int .i64 f1.1, .int .i64 f1.2]]) (by simp [results, Try.results31, go_sem, q0, q1]) rfl ⟨?_, ?_⟩
    · exact .inl ⟨f1, HE.out, rfl⟩
    · exact ((((hg.trans (hb1.mono (by rw [hgz]; omega))).setCell (Nat.le_refl _) _).setCell (Nat.le_refl _) _).alloc (by simp [World.setCell]; omega) _).drew
  have HE0 : Hid (makeF ls = match linkL ls ls with
    | .error f => .error f
    | .ok qs => if (firstF 9 qs (hangB qs)).1 = 0 then match solveL (qs.length + 1) (qs.map give) with
        | .error f => .error f
        | .ok rs => if (firstF 10 rs (badFit rs)).1 = 0 then .ok rs else .error (firstF 10 rs (badFit rs))
      else .error (firstF 9 qs (hangB qs))) := by show makeF ls = _; unfold makeF; rw [HF1.out, if_pos h1]
  have hn1 : (f1.1 : Int) = 0 := by omega
  have hMW : MK w W1 w1.heap.size f1.1 f1.2 := by rw [hW1]; exact hm
  have HMW : Hid (MK w W1 w1.heap.size f1.1 f1.2) := hMW
  have hbW1 := hMW.2.2.1
  clear hm hMW
  go_wp2_with fail
  rw [← hn1, ← hW1]
  refine (hlk W1 hbW1).mono ?_
  rintro e w2 ⟨hL, hb2⟩
  have hM2 := HMW.out.below hb2 HMW.out.2.2.2.2
  have HL : Hid (LinkIs W1.heap.size (linkL ls ls) e w2) := hL
  clear hL hW1 hn1
  obtain ⟨fv, hfv⟩ : ∃ fv, fv = w1.heap.size := ⟨_, rfl⟩
  rw [← hfv] at hM2 HMW ⊢
  clear hfv
  rcases HL.out with ⟨f, hf, rfl⟩ | ⟨qs, v, hq, rfl, hst⟩
  · have he := link_err hf
    have HFf : Hid (linkL ls ls = .error f) := hf
    clear hf HL
    have hnz : ¬ ((f).1 : Int) = 0 := by rw [he]; decide
    clear he
    have HS : Hid (makeF ls = .error f) := (by show makeF ls = _; rw [HE0.out, HFf.out])
    obtain ⟨fr, ff, hbel, hl1, hl2⟩ := hM2
    obtain ⟨c0, c1, g0, g1⟩ := fr.c
    obtain ⟨d0, d1, k0, k1⟩ := ff.c
    have hne : fv ≠ w.heap.size := by omega
    have hne2 : w.heap.size ≠ fv := by omega
    go_wp2
    go_region
    go_wp2
    have hm2 := (MK.set ⟨fr, ff, hbel, hl1, hl2⟩ (f).1 (f).2)
    have hq := hm2.1.set (f).1 (f).2
    obtain ⟨q0, q1, _, _⟩ := FltB.c (w := ((((w2.setCell ⟨fv, 0, none⟩ (.int .i64 (f).1)).setCell ⟨fv, 1, none⟩ (.int .i64 (f).2)).setCell ⟨w.heap.size, 0, none⟩ (.int .i64 (f).1)).setCell ⟨w.heap.size, 1, none⟩ (.int .i64 (f).2)).drew) hq
    refine bodyPost_ret (v := .tuple #[.slice none 0 0, .agg #[.int .i64 (f).1, .int .i64 (f).2]]) (by simp [results, Try.results31, go_sem, q0, q1]) rfl ⟨?_, ?_⟩
    · exact .inl ⟨f, HS.out, rfl⟩
    · exact ((hm2.2.2.1.setCell (Nat.le_refl _) _).setCell (Nat.le_refl _) _).drew
  obtain ⟨hwf1, hok1, hlen1⟩ := hwf _ hq
  have HQ : Hid (linkL ls ls = .ok (qs.map Prod.fst)) := hq
  obtain ⟨vp, vc, hve, hvc, hrs⟩ := hst.rs
  subst hve
  have hB1 := HMW.out.2.2.2.2
  have hm3 := hM2.set 0 0
  have hst3 := hst.keep hB1 (.int .i64 0) (.int .i64 0)
  have hz2 := hb2.size
  have hl24 : qs.length ≤ 24 := by rw [List.length_map] at hlen1; omega
  have hBw := HMW.out.2.2.2.1
  obtain ⟨X3, hX3⟩ : ∃ X3, X3 = (w2.setCell ⟨fv, 0, none⟩ (.int .i64 0)).setCell ⟨fv, 1, none⟩ (.int .i64 0) := ⟨_, rfl⟩
  rw [← hX3] at hm3 hst3
  have hX3s : X3.heap.size = w2.heap.size := by rw [hX3]; simp [World.setCell]
  obtain ⟨d0, d1, k0, k1⟩ := hM2.2.1.c
  clear HL hq hst hrs hwf hlen1
  go_wp2_with fail
  rw [← hX3]
  clear hX3 d0 d1 k0 k1
  obtain ⟨rp, rc, hre, hrc, hrs3⟩ := hst3.rs
  injection hre with hre1 hre2 hre3
  subst hre1
  subst hre3
  refine (findCause_any qs vp vc X3 hl24 hrs3 hwf1).mono ?_
  rintro e w4 ⟨hK, hb4⟩
  unfold FltIs at hK
  subst hK
  have hm4 := hm3.below hb4 hm3.2.2.2.2
  have hst4 := hst3.below hb4
  obtain ⟨f4, hf4⟩ : ∃ f, firstF 9 (qs.map Prod.fst) (hangB (qs.map Prod.fst)) = f := ⟨_, rfl⟩
  rw [hf4]
  have HF4 : Hid (firstF 9 (qs.map Prod.fst) (hangB (qs.map Prod.fst)) = f4) := hf4
  clear hf4 hrs3
  by_cases h4 : f4.1 = 0
  case neg =>
    have hnz : ¬ ((f4).1 : Int) = 0 := by omega
    have HS : Hid (makeF ls = .error f4) := (by show makeF ls = _; rw [HE0.out, HQ.out]; simp only; rw [HF4.out, if_neg h4])
    obtain ⟨fr, ff, hbel, hl1, hl2⟩ := hm4
    obtain ⟨c0, c1, g0, g1⟩ := fr.c
    obtain ⟨d0, d1, k0, k1⟩ := ff.c
    have hne : fv ≠ w.heap.size := by omega
    have hne2 : w.heap.size ≠ fv := by omega
    go_wp2
    go_region
    go_wp2
    have hm2 := (MK.set ⟨fr, ff, hbel, hl1, hl2⟩ (f4).1 (f4).2)
    have hq := hm2.1.set (f4).1 (f4).2
    obtain ⟨q0, q1, _, _⟩ := FltB.c (w := ((((w4.setCell ⟨fv, 0, none⟩ (.int .i64 (f4).1)).setCell ⟨fv, 1, none⟩ (.int .i64 (f4).2)).setCell ⟨w.heap.size, 0, none⟩ (.int .i64 (f4).1)).setCell ⟨w.heap.size, 1, none⟩ (.int .i64 (f4).2)).drew) hq
    refine bodyPost_ret (v := .tuple #[.slice none 0 0, .agg #[.int .i64 (f4).1, .int .i64 (f4).2]]) (by simp [results, Try.results31, go_sem, q0, q1]) rfl ⟨?_, ?_⟩
    · exact .inl ⟨f4, HS.out, rfl⟩
    · exact ((hm2.2.2.1.setCell (Nat.le_refl _) _).setCell (Nat.le_refl _) _).drew
  have hz4 := hb4.size
  have hm5 := hm4.set 0 0
  have hst5 := hst4.keep hB1 (.int .i64 0) (.int .i64 0)
  have HE1 : Hid (makeF ls = match solveL (qs.length + 1) ((qs.map Prod.fst).map give) with
        | .error f => .error f
        | .ok rs => if (firstF 10 rs (badFit rs)).1 = 0 then .ok rs else .error (firstF 10 rs (badFit rs))) := by
    show makeF ls = _
    rw [HE0.out, HQ.out]; simp only; rw [HF4.out, if_pos h4, List.length_map]
  have hf40 : f4 = (0, 0) := by
    have := HF4.out
    unfold firstF at this
    split at this
    · exact this.symm
    · rw [← this] at h4; simp at h4
  subst hf40
  obtain ⟨X5, hX5⟩ : ∃ X5, X5 = (w4.setCell ⟨fv, 0, none⟩ (.int .i64 0)).setCell ⟨fv, 1, none⟩ (.int .i64 0) := ⟨_, rfl⟩
  rw [← hX5] at hm5 hst5
  have hX5s : X5.heap.size = w4.heap.size := by rw [hX5]; simp [World.setCell]
  obtain ⟨d0, d1, k0, k1⟩ := hm4.2.1.c
  obtain ⟨O, hO⟩ : ∃ O, (qs.map Prod.fst).map give = O := ⟨_, rfl⟩
  have hfc := findClocks_both qs O vp vc W1.heap.size X5 hO hl24 hst5 (by omega) hwf1 hok1
  have HO : Hid ((qs.map Prod.fst).map give = O) := hO
  clear hO h4
  go_wp2_with fail
  rw [← hX5]
  clear hX5 d0 d1 k0 k1
  refine hfc.mono ?_
  rintro e w6 ⟨hF, hb6⟩
  have hm6 := hm5.below hb6 hB1
  have HFd : Hid (FindIs W1.heap.size (.slice vp qs.length vc) (solveL (qs.length + 1) O) e w6) := hF
  have hz6 := hb6.size
  clear hF hfc
  rcases HFd.out with ⟨f, hf, hK⟩ | ⟨rs, hf, hK, hst6, hok6, hwf6⟩
  · unfold FltIs at hK
    subst hK
    have he := solve_err hf
    have HFf : Hid (solveL (qs.length + 1) O = .error f) := hf
    clear hf HFd
    have hnz : ¬ ((f).1 : Int) = 0 := by rw [he]; decide
    clear he
    have HS : Hid (makeF ls = .error f) := (by show makeF ls = _; rw [HE1.out, HO.out, HFf.out])
    obtain ⟨fr, ff, hbel, hl1, hl2⟩ := hm6
    obtain ⟨c0, c1, g0, g1⟩ := fr.c
    obtain ⟨d0, d1, k0, k1⟩ := ff.c
    have hne : fv ≠ w.heap.size := by omega
    have hne2 : w.heap.size ≠ fv := by omega
    go_wp2
    go_region
    go_wp2
    have hm2 := (MK.set ⟨fr, ff, hbel, hl1, hl2⟩ (f).1 (f).2)
    have hq := hm2.1.set (f).1 (f).2
    obtain ⟨q0, q1, _, _⟩ := FltB.c (w := ((((w6.setCell ⟨fv, 0, none⟩ (.int .i64 (f).1)).setCell ⟨fv, 1, none⟩ (.int .i64 (f).2)).setCell ⟨w.heap.size, 0, none⟩ (.int .i64 (f).1)).setCell ⟨w.heap.size, 1, none⟩ (.int .i64 (f).2)).drew) hq
    refine bodyPost_ret (v := .tuple #[.slice none 0 0, .agg #[.int .i64 (f).1, .int .i64 (f).2]]) (by simp [results, Try.results31, go_sem, q0, q1]) rfl ⟨?_, ?_⟩
    · exact .inl ⟨f, HS.out, rfl⟩
    · exact ((hm2.2.2.1.setCell (Nat.le_refl _) _).setCell (Nat.le_refl _) _).drew
  unfold FltIs at hK
  subst hK
  have HRs : Hid (solveL (qs.length + 1) O = .ok (rs.map Prod.fst)) := hf
  clear hf HFd
  have hlr : rs.length = qs.length := by
    rcases hst6.1.2 with ⟨e1, e2⟩ | ⟨g, c, cur, e1, _⟩
    · injection e1 with _ e3 _; omega
    · injection e1 with _ e3 _; exact e3.symm
  obtain ⟨n, hn⟩ : ∃ n, n = qs.length := ⟨_, rfl⟩
  rw [← hn] at hlr hl24 hst6 HRs HE1 ⊢
  have HLR : Hid (rs.length = n) := hlr
  have hm7 := hm6.set 0 0
  have hst7 := hst6.keep hB1 (.int .i64 0) (.int .i64 0)
  obtain ⟨X7, hX7⟩ : ∃ X7, X7 = (w6.setCell ⟨fv, 0, none⟩ (.int .i64 0)).setCell ⟨fv, 1, none⟩ (.int .i64 0) := ⟨_, rfl⟩
  rw [← hX7] at hm7 hst7
  obtain ⟨d0, d1, k0, k1⟩ := hm6.2.1.c
  obtain ⟨rp, rc, hre, hrc, hrs7⟩ := hst7.rs
  injection hre with hre1 hre2 hre3
  subst hre1
  subst hre3
  have hfu := findUnfit_any rs vp vc X7 (by omega) hrs7 hwf6 hok6
  rw [HLR.out] at hfu
  clear hlr hn hrs7 hre2
  go_wp2_with fail
  rw [← hX7]
  clear hX7 d0 d1 k0 k1
  refine hfu.mono ?_
  rintro e w8 ⟨hK, hb8⟩
  unfold FltIs at hK
  subst hK
  have hm8 := hm7.below hb8 hm7.2.2.2.2
  have hst8 := hst7.below hb8
  obtain ⟨f8, hf8⟩ : ∃ f, firstF 10 (rs.map Prod.fst) (badFit (rs.map Prod.fst)) = f := ⟨_, rfl⟩
  rw [hf8]
  have HF8 : Hid (firstF 10 (rs.map Prod.fst) (badFit (rs.map Prod.fst)) = f8) := hf8
  clear hf8 hfu
  by_cases h8 : f8.1 = 0
  case neg =>
    have hnz : ¬ ((f8).1 : Int) = 0 := by omega
    have HS : Hid (makeF ls = .error f8) := (by show makeF ls = _; rw [HE1.out, HO.out, HRs.out]; simp only; rw [HF8.out, if_neg h8])
    obtain ⟨fr, ff, hbel, hl1, hl2⟩ := hm8
    obtain ⟨c0, c1, g0, g1⟩ := fr.c
    obtain ⟨d0, d1, k0, k1⟩ := ff.c
    have hne : fv ≠ w.heap.size := by omega
    have hne2 : w.heap.size ≠ fv := by omega
    go_wp2
    go_region
    go_wp2
    have hm2 := (MK.set ⟨fr, ff, hbel, hl1, hl2⟩ (f8).1 (f8).2)
    have hq := hm2.1.set (f8).1 (f8).2
    obtain ⟨q0, q1, _, _⟩ := FltB.c (w := ((((w8.setCell ⟨fv, 0, none⟩ (.int .i64 (f8).1)).setCell ⟨fv, 1, none⟩ (.int .i64 (f8).2)).setCell ⟨w.heap.size, 0, none⟩ (.int .i64 (f8).1)).setCell ⟨w.heap.size, 1, none⟩ (.int .i64 (f8).2)).drew) hq
    refine bodyPost_ret (v := .tuple #[.slice none 0 0, .agg #[.int .i64 (f8).1, .int .i64 (f8).2]]) (by simp [results, Try.results31, go_sem, q0, q1]) rfl ⟨?_, ?_⟩
    · exact .inl ⟨f8, HS.out, rfl⟩
    · exact ((hm2.2.2.1.setCell (Nat.le_refl _) _).setCell (Nat.le_refl _) _).drew
  have HS : Hid (makeF ls = .ok (rs.map Prod.fst)) := by
    show makeF ls = _
    rw [HE1.out, HO.out, HRs.out]; simp only; rw [HF8.out, if_pos h8]
  have hf80 : f8 = (0, 0) := by
    have := HF8.out
    unfold firstF at this
    split at this
    · exact this.symm
    · rw [← this] at h8; simp at h8
  subst hf80
  obtain ⟨fr, ff, hbel, hl1, hl2⟩ := hm8
  obtain ⟨c0, c1, g0, g1⟩ := fr.c
  obtain ⟨d0, d1, k0, k1⟩ := ff.c
  have hne : fv ≠ w.heap.size := by omega
  have hne2 : w.heap.size ≠ fv := by omega
  have hm9 := (MK.set ⟨fr, ff, hbel, hl1, hl2⟩ 0 0)
  have hst9 := hst8.keep hB1 (.int .i64 0) (.int .i64 0)
  have hst10 := hst9.keep (b := w.heap.size) (by omega) (.int .i64 0) (.int .i64 0)
  clear h8
  go_wp2
  obtain ⟨q0, q1, _, _⟩ := (hm9.1.set 0 0).c
  refine bodyPost_ret (v := .tuple #[.slice vp n vc, .agg #[.int .i64 0, .int .i64 0]]) (by simp [results, Try.results31, go_sem, q0, q1]) rfl ⟨?_, ?_⟩
  · refine .inr ⟨rs, _, HS.out, rfl, own_mono hst10.1 (by omega), fun p hp => own_mono (hst10.2 p hp) (by omega)⟩
  · exact (hm9.2.2.1.setCell (Nat.le_refl _) _).setCell (Nat.le_refl _) _
end Go.Proofs.Ytfbkjopidjojeab

namespace Go.Proofs.Ytfbkjopidjojeab
open Go.RowKit

theorem find_getD_le {n : Nat} {q : Nat → Bool} : ((List.range (n + 1)).find? q).getD 0 ≤ n := by
  cases h : (List.range (n + 1)).find? q with
  | none => simp
  | some k =>
    have := List.mem_of_find?_eq_some h
    rw [List.mem_range] at this
    simp; omega
theorem perL_pos {f : Nat → Bool} {m p : Nat} (hp : 0 < p) : 0 < perL f m p := by
  unfold perL
  cases h : (List.range (p + 1)).find? (fun q => decide (0 < q) && decide (p % q = 0) && (List.range (p - q)).all fun i => f (m + i + q) == f (m + i)) with
  | none =>
    rw [List.find?_eq_none] at h
    have := h p (List.mem_range.2 (by omega))
    simp [hp] at this
  | some k =>
    have := List.find?_some h
    simp at this
    simp; omega
theorem nfL_ok {f : Nat → Bool} {m p n : Nat} (hp : 0 < p) (hm : m ≤ n) (hpn : p ≤ n) : Wok n (nfL f m p) := by
  have h1 : perL f m p ≤ p := find_getD_le
  have h2 : preL f m (perL f m p) ≤ m := find_getD_le
  have h3 := perL_pos (f := f) (m := m) hp
  show Wok n (tab f 0 _, tab f _ _)
  refine ⟨fun e => ?_, ?_, ?_⟩
  · have := congrArg List.length e
    rw [tab_length] at this; simp at this; omega
  · rw [tab_length]; omega
  · rw [tab_length]; omega
theorem wdL_ok {p : List UInt8} {w : Wd} (h : wdL p = some w) : Wok 12 w := by
  unfold wdL at h
  split at h
  · rename_i hok
    obtain ⟨_, h1, h2, h3⟩ := okW_len hok
    injection h with h
    rw [← h]
    exact nfL_ok (List.length_pos_iff.2 h3) h1 h2
  · cases h

/-- What is known of a line. -/
structure GoodLn (l : Ln) : Prop where
  kind : l.kind ≤ 13
  len : l.uses.length ≤ 10
  wd : l.wd.1.length ≤ 12 ∧ l.wd.2.length ≤ 12
  has : l.kind = 10 ∨ l.kind = 11 ∨ isGv l.kind = true → l.wd.2 ≠ []
/-- What is known while pieces are taken. -/
def Part (l : Ln) (n : Nat) (h : Bool) : Prop := l.uses.length ≤ n ∧ l.wd.1.length ≤ 12 ∧ l.wd.2.length ≤ 12 ∧ (h = true → l.wd.2 ≠ [])
theorem take_part {l l' : Ln} {c : UInt8} {p : List UInt8} {n : Nat} {h : Bool} (ht : takeL l c p = some l') (hp : Part l n h) : Part l' (n + 1) (h || c == 119) ∧ l'.kind = l.kind := by
  obtain ⟨h1, h2, h3, h4⟩ := hp
  unfold takeL at ht
  split at ht
  · rename_i hc
    have hc9 : (c == 119) = false := by rw [beq_iff_eq] at hc; subst hc; rfl
    rw [hc9, Bool.or_false]
    cases hn : numL p with
    | none => rw [hn] at ht; cases ht
    | some v => rw [hn] at ht; cases ht; exact ⟨⟨Nat.le_succ_of_le h1, h2, h3, h4⟩, rfl⟩
  · split at ht
    · cases hn : wdL p with
      | none => rw [hn] at ht; cases ht
      | some v =>
        rw [hn] at ht; cases ht
        obtain ⟨a, b, d⟩ := wdL_ok hn
        exact ⟨⟨Nat.le_succ_of_le h1, b, d, fun _ => a⟩, rfl⟩
    · rename_i hc
      have hc9 : (c == 119) = false := by simpa using hc
      rw [hc9, Bool.or_false]
      split at ht
      · cases ht; exact ⟨⟨by simp; omega, h2, h3, h4⟩, rfl⟩
      · cases ht
theorem fill_part : ∀ {s : List UInt8} {l l' : Ln} {ps : List (List UInt8)} {n : Nat} {h : Bool}, fillL l s ps = some l' → Part l n h → Part l' (n + s.length) (h || s.any (· == 119)) ∧ l'.kind = l.kind := by
  intro s
  induction s with
  | nil =>
    intro l l' ps n h hf hp
    cases ps with
    | nil => simp [fillL] at hf; subst hf; simpa using hp
    | cons a b => simp [fillL] at hf
  | cons c s ih =>
    intro l l' ps n h hf hp
    cases ps with
    | nil => simp [fillL] at hf
    | cons a b =>
      rw [fillL] at hf
      cases ht : takeL l c a with
      | none => rw [ht] at hf; cases hf
      | some l2 =>
        rw [ht] at hf
        obtain ⟨h1, h2⟩ := take_part ht hp
        obtain ⟨h3, h4⟩ := ih hf h1
        refine ⟨?_, h4.trans h2⟩
        rw [List.length_cons, List.any_cons, ← Bool.or_assoc]
        rw [show n + (s.length + 1) = n + 1 + s.length by omega]
        exact h3
theorem zero_part (k : Nat) (nm : List UInt8) : Part { Ln.zero with kind := k, name := nm } 0 false := ⟨Nat.le_refl _, Nat.zero_le _, Nat.zero_le _, fun h => by cases h⟩
theorem own_good {k : Nat} {own shape : List UInt8} {ps : List (List UInt8)} {l : Ln} (h : ownL k own shape ps = some l) (hk : k ≤ 13) (hs : shape.length ≤ 3) (hw : k = 10 ∨ k = 11 ∨ isGv k = true → shape.any (· == 119) = true) : GoodLn l := by
  unfold ownL at h
  split at h
  · obtain ⟨⟨h1, h2, h3, h4⟩, h5⟩ := fill_part h (zero_part k own)
    have h5 : l.kind = k := h5
    exact ⟨by omega, by omega, ⟨h2, h3⟩, fun hh => h4 (by rw [h5] at hh; simp only [Bool.false_or]; exact hw hh)⟩
  · cases h
theorem oper_good (c : List UInt8) : (operL c).1 ≤ 13 ∧ (operL c).2.length ≤ 3 ∧ ((operL c).1 = 10 ∨ (operL c).1 = 11 ∨ isGv (operL c).1 = true → (operL c).2.any (· == 119) = true) := by
  unfold operL
  by_cases h0 : (c == [99, 111, 110, 115, 116]) = true
  · rw [if_pos h0]; decide
  rw [if_neg h0]
  by_cases h1 : (c == [97, 100, 100]) = true
  · rw [if_pos h1]; decide
  rw [if_neg h1]
  by_cases h2 : (c == [115, 117, 98]) = true
  · rw [if_pos h2]; decide
  rw [if_neg h2]
  by_cases h3 : (c == [109, 117, 108]) = true
  · rw [if_pos h3]; decide
  rw [if_neg h3]
  by_cases h4 : (c == [100, 105, 118]) = true
  · rw [if_pos h4]; decide
  rw [if_neg h4]
  by_cases h5 : (c == [108, 101, 115, 115]) = true
  · rw [if_pos h5]; decide
  rw [if_neg h5]
  by_cases h6 : (c == [105, 102]) = true
  · rw [if_pos h6]; decide
  rw [if_neg h6]
  by_cases h7 : (c == [102, 98, 121]) = true
  · rw [if_pos h7]; decide
  rw [if_neg h7]
  by_cases h8 : (c == [119, 104, 101, 110]) = true
  · rw [if_pos h8]; decide
  rw [if_neg h8]
  by_cases h9 : (c == [109, 101, 114, 103, 101]) = true
  · rw [if_pos h9]; decide
  rw [if_neg h9]
  by_cases h10 : (c == [98, 117, 102, 102, 101, 114]) = true
  · rw [if_pos h10]; decide
  rw [if_neg h10]
  decide
theorem parse_good {ps : List (List UInt8)} {l : Ln} (h : parseL ps = some l) : GoodLn l := by
  unfold parseL at h
  split at h
  · split at h
    · exact own_good h (by omega) (by decide) (fun _ => by decide)
    · split at h
      · obtain ⟨⟨h1, h2, h3, h4⟩, h5⟩ := fill_part h (zero_part 13 [])
        have h5 : l.kind = 13 := h5
        exact ⟨by omega, by simp at h1; omega, ⟨h2, h3⟩, fun hh => by rw [h5] at hh; exact absurd hh (by decide)⟩
      · split at h
        · split at h
          · split at h
            · cases h
            · rename_i c r' _ _
              obtain ⟨a, b, d⟩ := oper_good c
              exact own_good h a b d
          · cases h
        · cases h
  · cases h
theorem read_good : ∀ {R : List (List UInt8)} {n : Nat} {ls : List Ln}, readL n R = .ok ls → ∀ l ∈ ls, GoodLn l := by
  intro R
  induction R with
  | nil => intro n ls h l hl; simp [readL] at h; subst h; simp at hl
  | cons r R ih =>
    intro n ls h
    rw [readL] at h
    split at h
    · exact ih h
    · cases hp : parseL (filL (cutL 32 r)) with
      | none => rw [hp] at h; cases h
      | some l =>
        rw [hp] at h
        simp only at h
        cases hr : readL (n + 1) R with
        | error e => rw [hr] at h; cases h
        | ok m =>
          rw [hr] at h
          cases h
          intro x hx
          rcases List.mem_cons.1 hx with rfl | hx
          · have := parse_good hp
            exact ⟨this.kind, this.len, this.wd, this.has⟩
          · exact ih hr x hx
theorem source_good {t : List UInt8} {ls : List Ln} (h : sourceL t = .ok ls) : (∀ l ∈ ls, GoodLn l) ∧ ls.length ≤ 24 := by
  unfold sourceL at h
  split at h
  · cases h
  · cases hr : readL 0 (cutL 10 t) with
    | error e => rw [hr] at h; cases h
    | ok m =>
      rw [hr] at h
      simp only [finL] at h
      split at h
      · cases h
      · rename_i hn
        cases h
        refine ⟨read_good hr, ?_⟩
        rw [List.getElem?_eq_none_iff] at hn; exact hn
theorem owner_lt {ls : List Ln} {nm : List UInt8} {k : Nat} (h : ownerL ls nm = some k) : k < ls.length := by
  unfold ownerL at h
  rw [List.findIdx?_eq_some_iff_getElem] at h
  exact h.1
theorem link_good {all : List Ln} : ∀ {ls : List Ln} {qs : List St}, (∀ l ∈ ls, GoodLn l) → linkL all ls = .ok qs → (∀ s ∈ qs, WfS all.length s ∧ s.ck = ([], [])) ∧ qs.length = ls.length := by
  intro ls
  induction ls with
  | nil => intro qs _ h; simp [linkL] at h; subst h; simp
  | cons l ls ih =>
    intro qs hg h
    rw [linkL] at h
    cases hs : stepL all l with
    | none => rw [hs] at h; cases h
    | some s =>
      rw [hs] at h
      simp only at h
      cases hl : linkL all ls with
      | error g => rw [hl] at h; cases h
      | ok r =>
        rw [hl] at h
        cases h
        obtain ⟨h1, h2⟩ := ih (fun x hx => hg x (by simp [hx])) hl
        refine ⟨fun x hx => ?_, by simp [h2]⟩
        rcases List.mem_cons.1 hx with rfl | hx
        · have gl := hg l (by simp)
          unfold stepL at hs
          cases ho : ownersL all l.uses with
          | none => rw [ho] at hs; cases hs
          | some u =>
            rw [ho] at hs
            cases hs
            unfold ownersL at ho
            split at ho
            · rename_i hall
              cases ho
              refine ⟨⟨fun y hy => ?_, by have := gl.len; simp; omega, gl.kind, gl.wd, gl.has⟩, rfl⟩
              obtain ⟨nm, hnm, rfl⟩ := List.mem_map.1 hy
              have := List.all_eq_true.1 hall nm hnm
              cases he : ownerL all nm with
              | none => rw [he] at this; cases this
              | some k => exact owner_lt he
            · cases ho
        · exact h1 x hx
theorem link_wf {ls : List Ln} {qs : List St} (hg : ∀ l ∈ ls, GoodLn l) (h : linkL ls ls = .ok qs) : Wf qs ∧ CkOk 64 qs ∧ qs.length = ls.length := by
  obtain ⟨h1, h2⟩ := link_good hg h
  refine ⟨fun s hs => by rw [h2]; exact (h1 s hs).1, fun s hs => by rw [(h1 s hs).2]; exact ⟨Nat.zero_le _, Nat.zero_le _⟩, h2⟩

/-- What Compile gives, by the model. -/
noncomputable def compF (t : List UInt8) : Except Flt (List St) := match sourceL t with
  | .error f => .error f
  | .ok ls => makeF ls
def CompIs (B : Nat) (o : Except Flt (List St)) (e : Ending) (w' : World) : Prop :=
  (∃ f : Flt, o = .error f ∧ e = .returned (.tuple #[.pointer none, .agg #[.int .i64 f.1, .int .i64 f.2]])) ∨
  ∃ qs v b, o = .ok (qs.map Prod.fst) ∧ e = .returned (.tuple #[.pointer (some ⟨b, 0, none⟩), .agg #[.int .i64 0, .int .i64 0]]) ∧ B ≤ b ∧ w'.cell? ⟨b, 0, none⟩ = some v ∧ StepsAt w' B v qs
theorem source_err {t : List UInt8} {f : Flt} (h : sourceL t = .error f) : f.1 ≠ 0 := by
  unfold sourceL at h
  split at h
  · cases h; decide
  · cases hr : readL 0 (cutL 10 t) with
    | error e => rw [hr] at h; cases h; show (5 : Nat) ≠ 0; decide
    | ok m =>
      rw [hr] at h
      simp only [finL] at h
      split at h
      · cases h; show (6 : Nat) ≠ 0; decide
      · cases h
theorem first_err {c : Nat} {qs : List St} {bad : Nat → Bool} : (firstF c qs bad).1 = 0 ∨ firstF c qs bad ≠ (0, 0) := by
  rcases Decidable.em ((firstF c qs bad).1 = 0) with h | h
  · exact .inl h
  · exact .inr (fun e => h (by rw [e]))
theorem make_err {ls : List Ln} {f : Flt} (h : makeF ls = .error f) : f.1 ≠ 0 := by
  unfold makeF at h
  split at h
  · cases hl : linkL ls ls with
    | error g => rw [hl] at h; cases h; rw [link_err hl]; decide
    | ok qs =>
      rw [hl] at h
      simp only at h
      split at h
      · cases hs : solveL (qs.length + 1) (qs.map give) with
        | error g => rw [hs] at h; cases h; rw [solve_err hs]; decide
        | ok rs =>
          rw [hs] at h
          simp only at h
          split at h
          · cases h
          · cases h; assumption
      · cases h; assumption
  · cases h; assumption

set_option maxRecDepth 50000 in
set_option maxHeartbeats 2000000 in
theorem Compile_any (s : ByteArray) (w : World) (hs : s.size ≤ maxLen) :
    Calls Try.prog 12 #[.string s] w fun e w' => CompIs w.heap.size (compF s.data.toList) e w' ∧ Below w.heap.size w w' := by
  have hf0 := G1_f w
  have hg := G1_below w
  have hgz := G1_size w
  have hread := Read_any s (G1 w) hs
  obtain ⟨o, ho⟩ : ∃ o, sourceL s.data.toList = o := ⟨_, rfl⟩
  rw [ho] at hread
  have HO : Hid (sourceL s.data.toList = o) := ho
  clear ho hs
  go_enter Try.func12, Try.ntmps12
  go_wp2_with fail
  refine hread.mono ?_
  rintro e w1 ⟨hR, hb1⟩
  have hz1 := hb1.size
  rw [hgz] at hz1
  have hfw1 := hf0.below hb1 (by rw [hgz]; omega)
  obtain ⟨c0, c1, g0, g1⟩ := hfw1.c
  have hltw : w.heap.size < w1.heap.size := by omega
  have hbw1 : Below w.heap.size w w1 := hg.trans (hb1.mono (by rw [hgz]; omega))
  have HR : Hid (SrcIs (G1 w).heap.size o e w1) := hR
  clear hR hread
  rcases HR.out with ⟨f, hf, rfl⟩ | ⟨ps, v, hq, hl24, rfl, hlines⟩
  · have HS : Hid (compF s.data.toList = .error f) := by show compF _ = _; unfold compF; rw [HO.out, hf]
    have hnz : ¬ (f.1 : Int) = 0 := by have := source_err (HO.out.trans hf); omega
    clear hf HR
    go_wp2
    go_region
    go_wp2
    have hq := (hfw1.set f.1 f.2).below ((Below.refl _ _).alloc (Nat.le_refl _) (Obj.cells #[Value.int IntKind.i64 f.1, Value.int IntKind.i64 f.2] 30)) (by simpa [World.setCell] using hltw)
    obtain ⟨q0, q1, _, _⟩ := FltB.c (w := (((w1.setCell ⟨w.heap.size, 0, none⟩ (.int .i64 f.1)).setCell ⟨w.heap.size, 1, none⟩ (.int .i64 f.2)).alloc (Obj.cells #[Value.int IntKind.i64 f.1, Value.int IntKind.i64 f.2] 30)).drew) hq
    refine bodyPost_ret (v := .tuple #[.pointer none, .agg #[.int .i64 f.1, .int .i64 f.2]]) (by simp [results, Try.results12, go_sem, q0, q1]) rfl ⟨?_, ?_⟩
    · exact .inl ⟨f, HS.out, rfl⟩
    · exact (((hbw1.setCell (Nat.le_refl _) _).setCell (Nat.le_refl _) _).alloc (by simp [World.setCell]; omega) _).drew
  · have hsrc : sourceL s.data.toList = .ok (ps.map Prod.fst) := HO.out.trans hq
    obtain ⟨hgood, _⟩ := source_good hsrc
    have HC : Hid (compF s.data.toList = makeF (ps.map Prod.fst)) := by show compF _ = _; unfold compF; rw [hsrc]
    obtain ⟨lp, lc, hve, hlc, hrl⟩ := hlines.rl
    subst hve
    have hm := MK.new (x := 0) (y := 0) hfw1 hbw1 hltw
    obtain ⟨W1, hW1⟩ : ∃ W1, W1 = w1.alloc (Obj.cells #[.int .i64 0, .int .i64 0] 30) := ⟨_, rfl⟩
    have hbA : Below w1.heap.size w1 W1 := by rw [hW1]; exact (Below.refl _ _).alloc (Nat.le_refl _) _
    rw [← hW1] at hm
    have hmake := Make_any ps lp lc W1 hl24 hlc (fun q hq => by have := (hgood q.1 (List.mem_map_of_mem hq)).len; omega) (hrl.below hbA (Nat.le_refl _)) (fun qs h => by have := link_wf hgood h; rw [List.length_map] at this; exact this)
    clear hlines hrl hq hsrc HR c0 c1 g0 g1
    obtain ⟨fv, hfv⟩ : ∃ fv, fv = w1.heap.size := ⟨_, rfl⟩
    rw [← hfv] at hm
    go_wp2_with fail
    rw [← hW1, ← hfv]
    clear hW1 hfv
    refine hmake.mono ?_
    rintro e w2 ⟨hM, hb2⟩
    have hm2' := hm.below hb2 hm.2.2.2.2
    have HMk : Hid (MakeIs W1.heap.size (makeF (ps.map Prod.fst)) e w2) := hM
    clear hM hmake
    rcases HMk.out with ⟨f, hf, rfl⟩ | ⟨qs, v, hf, rfl, hst⟩
    · clear HMk
      have hnz : ¬ ((f).1 : Int) = 0 := by have := make_err hf; omega
      have HS : Hid (compF s.data.toList = .error f) := HC.out.trans hf
      obtain ⟨fr, ff, hbel, hl1, hl2⟩ := hm2'
      obtain ⟨c0, c1, g0, g1⟩ := fr.c
      obtain ⟨d0, d1, k0, k1⟩ := ff.c
      have hne : fv ≠ w.heap.size := by omega
      have hne2 : w.heap.size ≠ fv := by omega
      clear hf
      go_wp2
      go_region
      go_wp2
      have hm2 := (MK.set ⟨fr, ff, hbel, hl1, hl2⟩ (f).1 (f).2)
      have hq := hm2.1.set (f).1 (f).2
      obtain ⟨q0, q1, _, _⟩ := FltB.c (w := ((((w2.setCell ⟨fv, 0, none⟩ (.int .i64 (f).1)).setCell ⟨fv, 1, none⟩ (.int .i64 (f).2)).setCell ⟨w.heap.size, 0, none⟩ (.int .i64 (f).1)).setCell ⟨w.heap.size, 1, none⟩ (.int .i64 (f).2)).drew) hq
      refine bodyPost_ret (v := .tuple #[.pointer none, .agg #[.int .i64 (f).1, .int .i64 (f).2]]) (by simp [results, Try.results12, go_sem, q0, q1]) rfl ⟨?_, ?_⟩
      · exact .inl ⟨f, HS.out, rfl⟩
      · exact ((hm2.2.2.1.setCell (Nat.le_refl _) _).setCell (Nat.le_refl _) _).drew
    · have HS : Hid (compF s.data.toList = .ok (qs.map Prod.fst)) := HC.out.trans hf
      obtain ⟨vp, vc, hve, hvc, hrs⟩ := hst.rs
      subst hve
      have hfvB := hm.2.2.2.2
      obtain ⟨fr, ff, hbel, hl1, hl2⟩ := hm2'
      obtain ⟨c0, c1, g0, g1⟩ := fr.c
      obtain ⟨d0, d1, k0, k1⟩ := ff.c
      have hne : fv ≠ w.heap.size := by omega
      have hne2 : w.heap.size ≠ fv := by omega
      have hlt3 : w.heap.size < w2.heap.size := by omega
      have hm3 := (MK.set ⟨fr, ff, hbel, hl1, hl2⟩ 0 0)
      have hst3 := (hst.keep hfvB (.int .i64 0) (.int .i64 0)).keep (b := w.heap.size) (by omega) (.int .i64 0) (.int .i64 0)
      clear hf HMk hrs
      go_wp2
      obtain ⟨X, hX⟩ : ∃ X, X = (((w2.setCell ⟨fv, 0, none⟩ (.int .i64 0)).setCell ⟨fv, 1, none⟩ (.int .i64 0)).setCell ⟨w.heap.size, 0, none⟩ (.int .i64 0)).setCell ⟨w.heap.size, 1, none⟩ (.int .i64 0) := ⟨_, rfl⟩
      have hXz : X.heap.size = w2.heap.size := by rw [hX]; simp [World.setCell]
      have hq0 := hm3.1.set 0 0
      have hbX : Below w.heap.size w X := by rw [hX]; exact (hm3.2.2.1.setCell (Nat.le_refl _) _).setCell (Nat.le_refl _) _
      rw [← hX] at hq0 hst3 ⊢
      have hbA2 : Below X.heap.size X (X.alloc (Obj.cells #[Value.slice vp qs.length vc] 68)) := (Below.refl _ _).alloc (Nat.le_refl _) _
      obtain ⟨q0, q1, _, _⟩ := (hq0.below hbA2 (by omega)).c
      have hst4 := hst3.below hbA2
      refine bodyPost_ret (v := .tuple #[.pointer (some ⟨w2.heap.size, 0, none⟩), .agg #[.int .i64 0, .int .i64 0]]) (by simp [results, Try.results12, go_sem, q0, q1]) rfl ⟨?_, ?_⟩
      · refine .inr ⟨qs, .slice vp qs.length vc, w2.heap.size, HS.out, rfl, by omega, ?_, own_mono hst4.1 (by omega), fun p hp => own_mono (hst4.2 p hp) (by omega)⟩
        rw [← hXz, cell_of_row _ _ 0 _ _ _ (heap_alloc_new X _)]; rfl
      · exact hbX.trans (hbA2.mono (by omega))
end Go.Proofs.Ytfbkjopidjojeab

namespace Go.Proofs.Ytfbkjopidjojeab
open Go.RowKit

/-- On what a step hangs at once, reckoned. -/
def succL (qs : List St) (a : Nat) : List Nat := match qs[a]? with
  | none => []
  | some s => if s.kind == 9 then [] else s.uses
theorem succ_iff {qs : List St} {a b : Nat} : b ∈ succL qs a ↔ Edge qs a b := by
  unfold succL Edge
  cases h : qs[a]? with
  | none => simp
  | some s =>
    by_cases h9 : s.kind = 9
    · simp [h9]
    · simp [h9]
def growL (qs : List St) (C : List Nat) : List Nat := C ++ (C.flatMap (succL qs)).filter fun x => !C.contains x
def reachL (qs : List St) (a : Nat) : Nat → List Nat
  | 0 => succL qs a
  | n + 1 => growL qs (reachL qs a n)
theorem reachL_sound {qs : List St} {a : Nat} : ∀ {n x : Nat}, x ∈ reachL qs a n → Reach qs a x := by
  intro n
  induction n with
  | zero => intro x hx; exact .one (succ_iff.1 hx)
  | succ n ih =>
    intro x hx
    rcases List.mem_append.1 hx with h | h
    · exact ih h
    · obtain ⟨y, hy, hxy⟩ := List.mem_flatMap.1 (List.mem_filter.1 h).1
      exact .more (ih hy) (succ_iff.1 hxy)
theorem reachL_base {qs : List St} {a x : Nat} : ∀ {n : Nat}, x ∈ succL qs a → x ∈ reachL qs a n := by
  intro n hx
  induction n with
  | zero => exact hx
  | succ n ih => exact List.mem_append_left _ ih
def closedL (qs : List St) (C : List Nat) : Bool := C.all fun x => (succL qs x).all fun y => C.contains y
def hangC (qs : List St) (a : Nat) : Bool := (reachL qs a (qs.length + 1)).contains a
theorem hang_c {qs : List St} {a : Nat} (h : closedL qs (reachL qs a (qs.length + 1)) = true) : hangB qs a = hangC qs a := by
  apply hang_eq
  unfold hangC
  rw [List.contains_iff_mem]
  constructor
  · exact fun hx => reachL_sound hx
  · intro hr
    have key : ∀ x, Reach qs a x → x ∈ reachL qs a (qs.length + 1) := by
      intro x hx
      induction hx with
      | one he => exact reachL_base (succ_iff.2 he)
      | more _ he ih =>
        unfold closedL at h
        have h1 := List.all_eq_true.1 h _ ih
        have h2 := List.all_eq_true.1 h1 _ (succ_iff.2 he)
        simpa using h2
    exact key a hr
theorem firstF_congr {c : Nat} {qs : List St} {f g : Nat → Bool} (h : ∀ k, k < qs.length → f k = g k) : firstF c qs f = firstF c qs g := by
  have : (List.range qs.length).find? f = (List.range qs.length).find? g := by
    have key : ∀ l : List Nat, (∀ k ∈ l, f k = g k) → l.find? f = l.find? g := by
      intro l
      induction l with
      | nil => intro _; rfl
      | cons a r ih =>
        intro hl
        rw [List.find?_cons, List.find?_cons, hl a (by simp), ih (fun k hk => hl k (by simp [hk]))]
    exact key _ fun k hk => h k (List.mem_range.1 hk)
  unfold firstF; rw [this]

/-- Does a text give this error and this line (0: a program)? -/
def checkRow (t : List UInt8) (f : Flt) : Bool := match sourceL t with
  | .error g => g == f
  | .ok ls => if (twF ls).1 = 0 then match linkL ls ls with
      | .error g => g == f
      | .ok qs => (List.range qs.length).all (fun k => closedL qs (reachL qs k (qs.length + 1))) &&
        (if (firstF 9 qs (hangC qs)).1 = 0 then match solveL (qs.length + 1) (qs.map give) with
          | .error g => g == f
          | .ok rs => if (firstF 10 rs (badFit rs)).1 = 0 then f == (0, 0) else firstF 10 rs (badFit rs) == f
        else firstF 9 qs (hangC qs) == f)
    else twF ls == f
theorem check_ok {t : List UInt8} {f : Flt} (h : checkRow t f = true) : (f = (0, 0) ∧ ∃ rs, compF t = .ok rs) ∨ compF t = .error f := by
  unfold checkRow at h
  unfold compF
  cases hs : sourceL t with
  | error g => rw [hs] at h; right; simp only at h ⊢; rw [beq_iff_eq.1 h]
  | ok ls =>
    rw [hs] at h
    simp only at h ⊢
    unfold makeF
    split at h
    · rename_i h1
      rw [if_pos h1]
      cases hl : linkL ls ls with
      | error g => rw [hl] at h; right; simp only at h ⊢; rw [beq_iff_eq.1 h]
      | ok qs =>
        rw [hl] at h
        simp only [Bool.and_eq_true] at h ⊢
        obtain ⟨hc, h⟩ := h
        have hf : firstF 9 qs (hangB qs) = firstF 9 qs (hangC qs) := firstF_congr fun k hk => hang_c (List.all_eq_true.1 hc k (List.mem_range.2 hk))
        rw [hf]
        split at h
        · rename_i h2
          rw [if_pos h2]
          cases hv : solveL (qs.length + 1) (qs.map give) with
          | error g => rw [hv] at h; right; simp only at h ⊢; rw [beq_iff_eq.1 h]
          | ok rs =>
            rw [hv] at h
            simp only at h ⊢
            split at h
            · rename_i h3
              rw [if_pos h3]
              left; exact ⟨beq_iff_eq.1 h, rs, rfl⟩
            · rename_i h3
              rw [if_neg h3]
              right; rw [beq_iff_eq.1 h]
        · rename_i h2
          rw [if_neg h2]
          right; rw [beq_iff_eq.1 h]
    · rename_i h1
      rw [if_neg h1]
      right; rw [beq_iff_eq.1 h]

/-- The table. -/
def lotT : List (List UInt8 × Flt) := [
  ([], (0, 0)),
  ([32, 32, 10, 10, 32], (0, 0)),
  ([105, 110, 32, 120, 32, 40, 49, 41, 10, 32, 111, 117, 116, 32, 32, 120, 32], (0, 0)),
  ([111, 117, 116, 32, 120, 10, 105, 110, 32, 120, 32, 40, 49, 41], (0, 0)),
  ([105, 110, 32, 120, 32, 40, 49, 41, 10, 111, 117, 116, 32, 120, 10, 111, 117, 116, 32, 120], (0, 0)),
  ([9, 105, 110, 32, 120, 32, 40, 49, 41], (5, 1)),
  ([105, 110, 32, 120, 32, 40, 49, 41, 9], (5, 1)),
  ([105, 110, 32, 120, 32, 40, 49, 48, 48, 48, 48, 48, 48, 48, 48, 41, 10, 105, 110, 32, 121, 32, 40, 48, 49, 48, 48, 48, 48, 48, 48, 48, 48, 41, 10, 122, 32, 61, 32, 109, 101, 114, 103, 101, 32, 40, 49, 48, 41, 32, 120, 32, 121], (2, 3)),
  ([97, 32, 61, 32, 97, 100, 100, 32, 97, 32, 97], (9, 1)),
  ([110, 32, 61, 32, 102, 98, 121, 32, 48, 32, 110], (10, 1)),
  ([105, 110, 32, 120, 32, 40, 49, 48, 41, 10, 105, 110, 32, 121, 32, 40, 48, 49, 41, 10, 115, 32, 61, 32, 97, 100, 100, 32, 120, 32, 121], (10, 3)),
  ([105, 110, 32, 120, 32, 40, 49, 48, 41, 10, 121, 32, 61, 32, 98, 117, 102, 102, 101, 114, 32, 120, 32, 40, 49, 49, 48, 41], (10, 2)),
  ([105, 110, 32, 120, 32, 40, 49, 48, 41, 10, 121, 32, 61, 32, 98, 117, 102, 102, 101, 114, 32, 120, 32, 40, 49, 41], (10, 2)),
  ([105, 110, 32, 120, 32, 40, 48, 49, 41, 10, 121, 32, 61, 32, 98, 117, 102, 102, 101, 114, 32, 120, 32, 40, 49, 48, 41], (10, 2)),
  ([120, 32, 61, 32, 119, 104, 101, 110, 32, 121, 32, 40, 49, 41], (8, 1)),
  ([111, 117, 116, 32, 121], (8, 1)),
  ([105, 110, 32, 105, 110, 32, 40, 49, 41], (5, 1)),
  ([105, 110, 32, 120, 32, 49, 48], (5, 1)),
  ([105, 110, 32, 120, 32, 40, 41], (5, 1)),
  ([120, 32, 61, 32, 97, 100, 100, 32, 121], (5, 1)),
  ([120, 32, 61, 32, 102, 111, 111, 32, 121, 32, 122], (5, 1)),
  ([120, 32, 97, 100, 100, 32, 121, 32, 122], (5, 1)),
  ([88, 32, 61, 32, 97, 100, 100, 32, 121, 32, 122], (5, 1)),
  ([116, 111, 111, 108, 111, 110, 103, 32, 61, 32, 97, 100, 100, 32, 121, 32, 122], (5, 1)),
  ([120, 32, 61, 32, 99, 111, 110, 115, 116, 32, 49, 50, 51, 52, 53, 54, 55, 56, 57, 48, 49, 32, 40, 49, 41], (5, 1)),
  ([120, 32, 61, 32, 99, 111, 110, 115, 116, 32, 45, 45, 49, 32, 40, 49, 41], (5, 1)),
  ([120, 32, 61, 32, 99, 111, 110, 115, 116, 32, 45, 32, 40, 49, 41], (5, 1)),
  ([10, 10, 120, 32, 61, 32, 102, 98, 121, 32, 121, 32, 49], (5, 3)),
  ([111, 117, 116, 32, 105, 110], (5, 1)),
  ([120, 32, 61, 32, 109, 101, 114, 103, 101, 32, 97, 32, 40, 49, 41, 32, 98], (5, 1)),
  ([120, 32, 61, 32, 99, 111, 110, 115, 116, 32, 49, 32, 40, 49, 41, 32, 50], (5, 1)),
  ([105, 110, 32, 120, 32, 40, 49, 41, 9, 111, 117, 116, 32, 120], (5, 1)),
  ([105, 110, 32, 120, 32, 40, 49, 41, 10, 120, 32, 61, 32, 97, 100, 100, 32, 120, 32, 120], (7, 2)),
  ([120, 32, 61, 32, 97, 100, 100, 32, 121, 32, 121, 10, 121, 32, 61, 32, 102, 98, 121, 32, 48, 32, 120, 10, 122, 32, 61, 32, 97, 100, 100, 32, 113, 32, 113], (8, 3)),
  ([121, 32, 61, 32, 97, 100, 100, 32, 122, 32, 122, 10, 122, 32, 61, 32, 97, 100, 100, 32, 120, 32, 120, 10, 120, 32, 61, 32, 98, 117, 102, 102, 101, 114, 32, 122, 32, 40, 49, 41], (9, 2)),
  ([121, 32, 61, 32, 97, 100, 100, 32, 122, 32, 122, 10, 122, 32, 61, 32, 97, 100, 100, 32, 120, 32, 120, 10, 120, 32, 61, 32, 119, 104, 101, 110, 32, 122, 32, 40, 49, 41, 10, 113, 32, 61, 32, 97, 100, 100, 32, 121, 32, 121], (9, 2)),
  ([113, 32, 61, 32, 97, 100, 100, 32, 121, 32, 121, 10, 121, 32, 61, 32, 102, 98, 121, 32, 48, 32, 122, 10, 122, 32, 61, 32, 97, 100, 100, 32, 121, 32, 121], (10, 1)),
  ([105, 110, 32, 120, 32, 40, 49, 41, 10, 97, 32, 61, 32, 97, 100, 100, 32, 120, 32, 120, 10, 98, 32, 61, 32, 97, 100, 100, 32, 121, 32, 120, 10, 121, 32, 61, 32, 97, 100, 100, 32, 98, 32, 98], (9, 3)),
  ([105, 110, 32, 120, 32, 40, 49, 41, 10, 97, 32, 61, 32, 119, 104, 101, 110, 32, 120, 32, 40, 49, 48, 41, 10, 98, 32, 61, 32, 119, 104, 101, 110, 32, 120, 32, 40, 49, 48, 41, 10, 121, 32, 61, 32, 109, 101, 114, 103, 101, 32, 40, 49, 48, 41, 32, 97, 32, 98], (10, 4)),
  ([105, 110, 32, 120, 32, 40, 49, 41, 10, 97, 32, 61, 32, 119, 104, 101, 110, 32, 120, 32, 40, 49, 48, 41, 10, 98, 32, 61, 32, 119, 104, 101, 110, 32, 120, 32, 40, 48, 49, 41, 10, 121, 32, 61, 32, 109, 101, 114, 103, 101, 32, 40, 48, 49, 41, 32, 97, 32, 98], (10, 4)),
  ([105, 110, 32, 120, 32, 40, 49, 48, 48, 41, 10, 105, 110, 32, 121, 32, 40, 48, 49, 48, 41, 10, 122, 32, 61, 32, 109, 101, 114, 103, 101, 32, 40, 49, 48, 41, 32, 120, 32, 121], (0, 0)),
  ([105, 110, 32, 120, 32, 40, 49, 48, 48, 41, 10, 105, 110, 32, 121, 32, 40, 48, 49, 48, 41, 10, 122, 32, 61, 32, 109, 101, 114, 103, 101, 32, 40, 49, 41, 32, 120, 32, 121], (10, 3)),
  ([105, 110, 32, 120, 32, 40, 49, 48, 48, 48, 48, 48, 48, 48, 48, 48, 48, 41, 10, 97, 32, 61, 32, 119, 104, 101, 110, 32, 120, 32, 40, 49, 48, 48, 48, 48, 48, 48, 41], (2, 2)),
  ([105, 110, 32, 120, 32, 40, 49, 48, 48, 48, 48, 48, 48, 48, 41, 10, 97, 32, 61, 32, 119, 104, 101, 110, 32, 120, 32, 40, 49, 48, 48, 48, 48, 48, 48, 48, 41, 10, 98, 32, 61, 32, 119, 104, 101, 110, 32, 97, 32, 40, 49, 48, 41], (2, 3)),
  ([105, 110, 32, 120, 32, 40, 49, 48, 48, 48, 48, 48, 48, 48, 41, 10, 97, 32, 61, 32, 119, 104, 101, 110, 32, 120, 32, 40, 49, 48, 48, 48, 48, 48, 48, 48, 41, 10, 98, 32, 61, 32, 97, 100, 100, 32, 97, 32, 97], (0, 0)),
  ([105, 110, 32, 120, 32, 40, 49, 48, 41, 10, 105, 110, 32, 121, 32, 40, 48, 49, 41, 10, 115, 32, 61, 32, 97, 100, 100, 32, 120, 32, 121, 10, 97, 32, 61, 32, 119, 104, 101, 110, 32, 120, 32, 40, 49, 48, 48, 48, 48, 48, 48, 48, 48, 48, 48, 48, 41, 10, 98, 32, 61, 32, 119, 104, 101, 110, 32, 97, 32, 40, 49, 48, 48, 48, 41], (2, 5))]
theorem lot_0 : checkRow ((lotT[0]?.getD ([], (0, 0))).1) ((lotT[0]?.getD ([], (0, 0))).2) = true := by kernel_rfl
theorem lot_1 : checkRow ((lotT[1]?.getD ([], (0, 0))).1) ((lotT[1]?.getD ([], (0, 0))).2) = true := by kernel_rfl
theorem lot_2 : checkRow ((lotT[2]?.getD ([], (0, 0))).1) ((lotT[2]?.getD ([], (0, 0))).2) = true := by kernel_rfl
theorem lot_3 : checkRow ((lotT[3]?.getD ([], (0, 0))).1) ((lotT[3]?.getD ([], (0, 0))).2) = true := by kernel_rfl
theorem lot_4 : checkRow ((lotT[4]?.getD ([], (0, 0))).1) ((lotT[4]?.getD ([], (0, 0))).2) = true := by kernel_rfl
theorem lot_5 : checkRow ((lotT[5]?.getD ([], (0, 0))).1) ((lotT[5]?.getD ([], (0, 0))).2) = true := by kernel_rfl
theorem lot_6 : checkRow ((lotT[6]?.getD ([], (0, 0))).1) ((lotT[6]?.getD ([], (0, 0))).2) = true := by kernel_rfl
theorem lot_7 : checkRow ((lotT[7]?.getD ([], (0, 0))).1) ((lotT[7]?.getD ([], (0, 0))).2) = true := by kernel_rfl
theorem lot_8 : checkRow ((lotT[8]?.getD ([], (0, 0))).1) ((lotT[8]?.getD ([], (0, 0))).2) = true := by kernel_rfl
theorem lot_9 : checkRow ((lotT[9]?.getD ([], (0, 0))).1) ((lotT[9]?.getD ([], (0, 0))).2) = true := by kernel_rfl
theorem lot_10 : checkRow ((lotT[10]?.getD ([], (0, 0))).1) ((lotT[10]?.getD ([], (0, 0))).2) = true := by kernel_rfl
theorem lot_11 : checkRow ((lotT[11]?.getD ([], (0, 0))).1) ((lotT[11]?.getD ([], (0, 0))).2) = true := by kernel_rfl
theorem lot_12 : checkRow ((lotT[12]?.getD ([], (0, 0))).1) ((lotT[12]?.getD ([], (0, 0))).2) = true := by kernel_rfl
theorem lot_13 : checkRow ((lotT[13]?.getD ([], (0, 0))).1) ((lotT[13]?.getD ([], (0, 0))).2) = true := by kernel_rfl
theorem lot_14 : checkRow ((lotT[14]?.getD ([], (0, 0))).1) ((lotT[14]?.getD ([], (0, 0))).2) = true := by kernel_rfl
theorem lot_15 : checkRow ((lotT[15]?.getD ([], (0, 0))).1) ((lotT[15]?.getD ([], (0, 0))).2) = true := by kernel_rfl
theorem lot_16 : checkRow ((lotT[16]?.getD ([], (0, 0))).1) ((lotT[16]?.getD ([], (0, 0))).2) = true := by kernel_rfl
theorem lot_17 : checkRow ((lotT[17]?.getD ([], (0, 0))).1) ((lotT[17]?.getD ([], (0, 0))).2) = true := by kernel_rfl
theorem lot_18 : checkRow ((lotT[18]?.getD ([], (0, 0))).1) ((lotT[18]?.getD ([], (0, 0))).2) = true := by kernel_rfl
theorem lot_19 : checkRow ((lotT[19]?.getD ([], (0, 0))).1) ((lotT[19]?.getD ([], (0, 0))).2) = true := by kernel_rfl
theorem lot_20 : checkRow ((lotT[20]?.getD ([], (0, 0))).1) ((lotT[20]?.getD ([], (0, 0))).2) = true := by kernel_rfl
theorem lot_21 : checkRow ((lotT[21]?.getD ([], (0, 0))).1) ((lotT[21]?.getD ([], (0, 0))).2) = true := by kernel_rfl
theorem lot_22 : checkRow ((lotT[22]?.getD ([], (0, 0))).1) ((lotT[22]?.getD ([], (0, 0))).2) = true := by kernel_rfl
theorem lot_23 : checkRow ((lotT[23]?.getD ([], (0, 0))).1) ((lotT[23]?.getD ([], (0, 0))).2) = true := by kernel_rfl
theorem lot_24 : checkRow ((lotT[24]?.getD ([], (0, 0))).1) ((lotT[24]?.getD ([], (0, 0))).2) = true := by kernel_rfl
theorem lot_25 : checkRow ((lotT[25]?.getD ([], (0, 0))).1) ((lotT[25]?.getD ([], (0, 0))).2) = true := by kernel_rfl
theorem lot_26 : checkRow ((lotT[26]?.getD ([], (0, 0))).1) ((lotT[26]?.getD ([], (0, 0))).2) = true := by kernel_rfl
theorem lot_27 : checkRow ((lotT[27]?.getD ([], (0, 0))).1) ((lotT[27]?.getD ([], (0, 0))).2) = true := by kernel_rfl
theorem lot_28 : checkRow ((lotT[28]?.getD ([], (0, 0))).1) ((lotT[28]?.getD ([], (0, 0))).2) = true := by kernel_rfl
theorem lot_29 : checkRow ((lotT[29]?.getD ([], (0, 0))).1) ((lotT[29]?.getD ([], (0, 0))).2) = true := by kernel_rfl
theorem lot_30 : checkRow ((lotT[30]?.getD ([], (0, 0))).1) ((lotT[30]?.getD ([], (0, 0))).2) = true := by kernel_rfl
theorem lot_31 : checkRow ((lotT[31]?.getD ([], (0, 0))).1) ((lotT[31]?.getD ([], (0, 0))).2) = true := by kernel_rfl
theorem lot_32 : checkRow ((lotT[32]?.getD ([], (0, 0))).1) ((lotT[32]?.getD ([], (0, 0))).2) = true := by kernel_rfl
theorem lot_33 : checkRow ((lotT[33]?.getD ([], (0, 0))).1) ((lotT[33]?.getD ([], (0, 0))).2) = true := by kernel_rfl
theorem lot_34 : checkRow ((lotT[34]?.getD ([], (0, 0))).1) ((lotT[34]?.getD ([], (0, 0))).2) = true := by kernel_rfl
theorem lot_35 : checkRow ((lotT[35]?.getD ([], (0, 0))).1) ((lotT[35]?.getD ([], (0, 0))).2) = true := by kernel_rfl
theorem lot_36 : checkRow ((lotT[36]?.getD ([], (0, 0))).1) ((lotT[36]?.getD ([], (0, 0))).2) = true := by kernel_rfl
theorem lot_37 : checkRow ((lotT[37]?.getD ([], (0, 0))).1) ((lotT[37]?.getD ([], (0, 0))).2) = true := by kernel_rfl
theorem lot_38 : checkRow ((lotT[38]?.getD ([], (0, 0))).1) ((lotT[38]?.getD ([], (0, 0))).2) = true := by kernel_rfl
theorem lot_39 : checkRow ((lotT[39]?.getD ([], (0, 0))).1) ((lotT[39]?.getD ([], (0, 0))).2) = true := by kernel_rfl
theorem lot_40 : checkRow ((lotT[40]?.getD ([], (0, 0))).1) ((lotT[40]?.getD ([], (0, 0))).2) = true := by kernel_rfl
theorem lot_41 : checkRow ((lotT[41]?.getD ([], (0, 0))).1) ((lotT[41]?.getD ([], (0, 0))).2) = true := by kernel_rfl
theorem lot_42 : checkRow ((lotT[42]?.getD ([], (0, 0))).1) ((lotT[42]?.getD ([], (0, 0))).2) = true := by kernel_rfl
theorem lot_43 : checkRow ((lotT[43]?.getD ([], (0, 0))).1) ((lotT[43]?.getD ([], (0, 0))).2) = true := by kernel_rfl
theorem lot_44 : checkRow ((lotT[44]?.getD ([], (0, 0))).1) ((lotT[44]?.getD ([], (0, 0))).2) = true := by kernel_rfl
theorem lot_45 : checkRow ((lotT[45]?.getD ([], (0, 0))).1) ((lotT[45]?.getD ([], (0, 0))).2) = true := by kernel_rfl
theorem lot_all : ∀ r, r < 46 → ∃ x, lotT[r]? = some x ∧ checkRow x.1 x.2 = true := by
  intro r hr
  have h : r = 0 ∨ r = 1 ∨ r = 2 ∨ r = 3 ∨ r = 4 ∨ r = 5 ∨ r = 6 ∨ r = 7 ∨ r = 8 ∨ r = 9 ∨ r = 10 ∨ r = 11 ∨ r = 12 ∨ r = 13 ∨ r = 14 ∨ r = 15 ∨ r = 16 ∨ r = 17 ∨ r = 18 ∨ r = 19 ∨ r = 20 ∨ r = 21 ∨ r = 22 ∨ r = 23 ∨ r = 24 ∨ r = 25 ∨ r = 26 ∨ r = 27 ∨ r = 28 ∨ r = 29 ∨ r = 30 ∨ r = 31 ∨ r = 32 ∨ r = 33 ∨ r = 34 ∨ r = 35 ∨ r = 36 ∨ r = 37 ∨ r = 38 ∨ r = 39 ∨ r = 40 ∨ r = 41 ∨ r = 42 ∨ r = 43 ∨ r = 44 ∨ r = 45 := by omega
  rcases h with rfl | rfl | rfl | rfl | rfl | rfl | rfl | rfl | rfl | rfl | rfl | rfl | rfl | rfl | rfl | rfl | rfl | rfl | rfl | rfl | rfl | rfl | rfl | rfl | rfl | rfl | rfl | rfl | rfl | rfl | rfl | rfl | rfl | rfl | rfl | rfl | rfl | rfl | rfl | rfl | rfl | rfl | rfl | rfl | rfl | rfl
  · exact ⟨_, rfl, lot_0⟩
  · exact ⟨_, rfl, lot_1⟩
  · exact ⟨_, rfl, lot_2⟩
  · exact ⟨_, rfl, lot_3⟩
  · exact ⟨_, rfl, lot_4⟩
  · exact ⟨_, rfl, lot_5⟩
  · exact ⟨_, rfl, lot_6⟩
  · exact ⟨_, rfl, lot_7⟩
  · exact ⟨_, rfl, lot_8⟩
  · exact ⟨_, rfl, lot_9⟩
  · exact ⟨_, rfl, lot_10⟩
  · exact ⟨_, rfl, lot_11⟩
  · exact ⟨_, rfl, lot_12⟩
  · exact ⟨_, rfl, lot_13⟩
  · exact ⟨_, rfl, lot_14⟩
  · exact ⟨_, rfl, lot_15⟩
  · exact ⟨_, rfl, lot_16⟩
  · exact ⟨_, rfl, lot_17⟩
  · exact ⟨_, rfl, lot_18⟩
  · exact ⟨_, rfl, lot_19⟩
  · exact ⟨_, rfl, lot_20⟩
  · exact ⟨_, rfl, lot_21⟩
  · exact ⟨_, rfl, lot_22⟩
  · exact ⟨_, rfl, lot_23⟩
  · exact ⟨_, rfl, lot_24⟩
  · exact ⟨_, rfl, lot_25⟩
  · exact ⟨_, rfl, lot_26⟩
  · exact ⟨_, rfl, lot_27⟩
  · exact ⟨_, rfl, lot_28⟩
  · exact ⟨_, rfl, lot_29⟩
  · exact ⟨_, rfl, lot_30⟩
  · exact ⟨_, rfl, lot_31⟩
  · exact ⟨_, rfl, lot_32⟩
  · exact ⟨_, rfl, lot_33⟩
  · exact ⟨_, rfl, lot_34⟩
  · exact ⟨_, rfl, lot_35⟩
  · exact ⟨_, rfl, lot_36⟩
  · exact ⟨_, rfl, lot_37⟩
  · exact ⟨_, rfl, lot_38⟩
  · exact ⟨_, rfl, lot_39⟩
  · exact ⟨_, rfl, lot_40⟩
  · exact ⟨_, rfl, lot_41⟩
  · exact ⟨_, rfl, lot_42⟩
  · exact ⟨_, rfl, lot_43⟩
  · exact ⟨_, rfl, lot_44⟩
  · exact ⟨_, rfl, lot_45⟩
end Go.Proofs.Ytfbkjopidjojeab

