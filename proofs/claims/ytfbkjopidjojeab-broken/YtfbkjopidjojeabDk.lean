/-
  Walks over package plan: fitsBuffer, fitsMerge.
-/
import Derived.Test.YtfbkjopidjojeabDj
import Derived.Deep.RegionWith
import Derived.Deep.Cut
namespace Go.Proofs.Ytfbkjopidjojeab
open Go.RowKit

/-- What fits keeps. -/
def Bun1 (w W : World) (s : St) (up : Option Addr) (uc : Nat) (x0 : Nat) (c0 : Wd) : Prop :=
  StB W w.heap.size s (.slice up s.uses.length uc) ∧ Boxed W x0 (bs c0.1) (bs c0.2) ∧ Below w.heap.size w W ∧ w.heap.size < W.heap.size ∧ x0 < W.heap.size
theorem Bun1.below {w W W' : World} {s : St} {up : Option Addr} {uc x0 : Nat} {c0 : Wd} (h : Bun1 w W s up uc x0 c0) (hb : Below W.heap.size W W') : Bun1 w W' s up uc x0 c0 := by
  obtain ⟨h1, h2, h3, h4, h5⟩ := h
  have hz := hb.size
  exact ⟨h1.below hb (by omega), h2.below hb h5, h3.trans (hb.mono (by omega)), by omega, by omega⟩
theorem Bun1.mk1 {w w1 : World} {s : St} {up : Option Addr} {uc : Nat} {c0 : Wd} (h0 : Below w.heap.size w w1) (h1 : StB w1 w.heap.size s (.slice up s.uses.length uc)) (hz : w.heap.size < w1.heap.size) :
    Bun1 w (w1.alloc (Obj.cells #[.string (bs c0.1), .string (bs c0.2)] 74)) s up uc w1.heap.size c0 := by
  have hA1 : Below w1.heap.size w1 (w1.alloc (Obj.cells #[.string (bs c0.1), .string (bs c0.2)] 74)) := (Below.refl _ _).alloc (Nat.le_refl _) _
  exact ⟨h1.below hA1 hz, Boxed.new w1 _ _ _ _ rfl, h0.trans (hA1.mono (by omega)), by simp; omega, by simp⟩

theorem boxed_other {w : World} {b c : Nat} {x y : ByteArray} (h : Boxed w b x y) (hb : c ≠ b) (p q : Value) : Boxed ((w.setCell ⟨c, 0, none⟩ p).setCell ⟨c, 1, none⟩ q) b x y := by
  have n : ∀ i j, (⟨c, i, none⟩ : Addr) ≠ ⟨b, j, none⟩ := fun i j e => by injection e with e; exact hb e
  refine ⟨?_, ?_, ?_, ?_⟩
  · rw [World.cell?_setCell_other _ _ _ _ (n 1 0), World.cell?_setCell_other _ _ _ _ (n 0 0)]; exact h.c0
  · rw [World.cell?_setCell_other _ _ _ _ (n 1 1), World.cell?_setCell_other _ _ _ _ (n 0 1)]; exact h.c1
  · rw [World.frozen?_setCell, World.frozen?_setCell]; exact h.f0
  · rw [World.frozen?_setCell, World.frozen?_setCell]; exact h.f1

/-- What fits keeps, with two words. -/
def Bun2 (w W : World) (s : St) (up : Option Addr) (uc : Nat) (x0 : Nat) (c0 : Wd) (x1 : Nat) (c1 : Wd) : Prop :=
  StB W w.heap.size s (.slice up s.uses.length uc) ∧ Boxed W x0 (bs c0.1) (bs c0.2) ∧ Boxed W x1 (bs c1.1) (bs c1.2) ∧ Below w.heap.size w W ∧ w.heap.size < W.heap.size ∧ x0 < W.heap.size ∧ x1 < W.heap.size
theorem Bun2.below {w W W' : World} {s : St} {up : Option Addr} {uc x0 x1 : Nat} {c0 c1 : Wd} (h : Bun2 w W s up uc x0 c0 x1 c1) (hb : Below W.heap.size W W') : Bun2 w W' s up uc x0 c0 x1 c1 := by
  obtain ⟨h1, h2, h3, h4, h5, h6, h7⟩ := h
  have hz := hb.size
  exact ⟨h1.below hb (by omega), h2.below hb h6, h3.below hb h7, h4.trans (hb.mono (by omega)), by omega, by omega, by omega⟩
theorem Bun2.mkA {w W : World} {s : St} {up : Option Addr} {uc x0 : Nat} {c0 c1 : Wd} (h : Bun1 w W s up uc x0 c0) : Bun2 w (W.alloc (Obj.cells #[.string (bs c1.1), .string (bs c1.2)] 74)) s up uc x0 c0 W.heap.size c1 := by
  have hA : Below W.heap.size W (W.alloc (Obj.cells #[.string (bs c1.1), .string (bs c1.2)] 74)) := (Below.refl _ _).alloc (Nat.le_refl _) _
  obtain ⟨h1, h2, h3, h4, h5⟩ := h.below hA
  exact ⟨h1, h2, Boxed.new W _ _ _ _ rfl, h3, h4, h5, by simp⟩
theorem Bun2.mkB {w W : World} {s : St} {up : Option Addr} {uc x0 x1 : Nat} {c0 c1 : Wd} {y z : ByteArray} (h : Bun1 w W s up uc x0 c0) (hb : Boxed W x1 y z) (hn : w.heap.size < x1) (hm : x0 < x1) :
    Bun2 w ((W.setCell ⟨x1, 0, none⟩ (.string (bs c1.1))).setCell ⟨x1, 1, none⟩ (.string (bs c1.2))) s up uc x0 c0 x1 c1 := by
  obtain ⟨h1, h2, h3, h4, h5⟩ := h
  have hlt := World.block_lt_of_cell? W ⟨x1, 0, none⟩ hb.c0
  refine ⟨?_, boxed_other h2 (Nat.ne_of_gt hm) _ _, hb.store _ _, ?_, by simp [World.setCell]; exact h4, by simp [World.setCell]; exact h5, by simp [World.setCell]; exact hlt⟩
  · unfold StB
    rw [heap_setCell_other _ _ _ _ (fun e => Nat.ne_of_gt hn e.symm), heap_setCell_other _ _ _ _ (fun e => Nat.ne_of_gt hn e.symm)]; exact h1
  · exact (h3.setCell (Nat.le_of_lt hn) _).setCell (Nat.le_of_lt hn) _

theorem Boxed_lt {w : World} {b : Nat} {x y : ByteArray} (h : Boxed w b x y) : b < w.heap.size := by
  have := h.c0
  exact World.block_lt_of_cell? w ⟨b, 0, none⟩ this
theorem Boxed.below' {w w' : World} {b : Nat} {x y : ByteArray} (h : Boxed w b x y) (hb : Below w.heap.size w w') : Boxed w' b x y := h.below hb (Boxed_lt h)
theorem newbox (W : World) : Boxed (W.alloc (Obj.cells #[.string ⟨#[]⟩, .string ⟨#[]⟩] 74)) W.heap.size ⟨#[]⟩ ⟨#[]⟩ := Boxed.new W _ _ _ _ rfl
theorem newbox_dr (W : World) : Boxed (W.alloc (Obj.cells #[.string ⟨#[]⟩, .string ⟨#[]⟩] 74)).drew W.heap.size ⟨#[]⟩ ⟨#[]⟩ := ⟨(newbox W).c0, (newbox W).c1, (newbox W).f0, (newbox W).f1⟩
theorem newbox_dr2 (W : World) : Boxed (W.drew.alloc (Obj.cells #[.string ⟨#[]⟩, .string ⟨#[]⟩] 74)) W.heap.size ⟨#[]⟩ ⟨#[]⟩ := newbox W.drew
theorem Bun1.dr {w W : World} {s : St} {up : Option Addr} {uc x0 : Nat} {c0 : Wd} (h : Bun1 w W s up uc x0 c0) : Bun1 w W.drew s up uc x0 c0 := by
  obtain ⟨h1, h2, h3, h4, h5⟩ := h
  exact ⟨h1, ⟨h2.c0, h2.c1, h2.f0, h2.f1⟩, h3.drew, h4, h5⟩
theorem Bun1.al {w W : World} {s : St} {up : Option Addr} {uc x0 : Nat} {c0 : Wd} (h : Bun1 w W s up uc x0 c0) (o : Obj) : Bun1 w (W.alloc o) s up uc x0 c0 := h.below ((Below.refl _ _).alloc (Nat.le_refl _) o)

set_option maxRecDepth 50000 in
set_option maxHeartbeats 2000000 in
theorem fitsBuffer_any (qs : List (St × Value)) (p : Option Addr) (cap : Nat) (s : St) (up : Option Addr) (uc : Nat) (w : World) (hr : RS w p qs)
    (hu : Reads w (.slice up s.uses.length uc) 1 s.uses.length (ints s.uses)) (hux : ∀ x ∈ s.uses, x < qs.length) (hok : CkOk 1048576 (qs.map Prod.fst)) (hck : Wok 1048576 s.ck) :
    Calls Try.prog 84 #[.slice p qs.length cap, .agg #[.int .i64 s.no, .int .i64 s.kind, .string (S s.name), .slice up s.uses.length uc, .int .i64 s.num, .string (bs s.wd.1), .string (bs s.wd.2), .string (bs s.ck.1), .string (bs s.ck.2)]] w
      fun e w' => e = .returned (.bool (fitBf (qs.map Prod.fst) s)) ∧ Below w.heap.size w w' := by
  have hS := Z1_s w s up uc
  have hbw := Z1_below w s up uc
  have b0 := hS.c 0
  have b1 := hS.c 1
  have b2 := hS.c 2
  have b3 := hS.c 3
  have b4 := hS.c 4
  have b5 := hS.c 5
  have b6 := hS.c 6
  have b7 := hS.c 7
  have b8 := hS.c 8
  simp only [stCells, List.getElem?_cons_zero, List.getElem?_cons_succ] at b0 b1 b2 b3 b4 b5 b6 b7 b8
  obtain ⟨c, hc⟩ : ∃ c, ucL (qs.map Prod.fst) s 0 = c := ⟨_, rfl⟩
  have hcall := usedClock_any qs p cap s up uc 0 (Z1 w s up uc) (by omega) (hr.below hbw (Nat.le_refl _)) (hu.below hbw (Nat.le_refl _)) hux
  rw [hc] at hcall
  have HC : Hid (ucL (qs.map Prod.fst) s 0 = c) := hc
  clear hc hr hu
  go_enter Try.func84, Try.ntmps84
  go_wp2_with fail
  refine hcall.mono ?_
  rintro e w1 ⟨hK, hb1⟩
  unfold CkIs at hK
  subst hK
  have hz := hb1.size
  rw [Z1_size] at hz
  have hB := Bun1.mk1 (c0 := c) (hbw.trans (hb1.mono (by rw [Z1_size]; omega))) (hS.below hb1 (by rw [Z1_size]; omega)) (by omega)
  have HB : Hid (Bun1 w (w1.alloc (Obj.cells #[.string (bs c.1), .string (bs c.2)] 74)) s up uc w1.heap.size c) := hB
  clear hcall b0 b1 b2 b3 b4 b5 b6 b7 b8
  cases hh : c.2.isEmpty with
  | true =>
    have HF : Hid (fitBf (qs.map Prod.fst) s = false) := by show fitBf _ _ = false; unfold fitBf; rw [HC.out]; simp [hasC, hh]
    clear hB
    go_wp2_with (go_at_call 64; refine (None_any c.1 c.2 _).mono ?_; rintro e w2 ⟨hK, hb2⟩; subst hK)
    go_ret
    exact ⟨ret_bool HF.out.symm, (HB.out.below hb2).2.2.1⟩
  | false =>
    have hwc : Wok 1048576 c := by rw [← HC.out]; exact ucL_wok hok s 0 (by rw [HC.out]; simp [hasC, hh])
    have HF : Hid (fitBf (qs.map Prod.fst) s = adB c s.ck) := by show fitBf _ _ = _; unfold fitBf; rw [HC.out]; simp [hasC, hh]
    have hiff := adB_iff hwc.1 hck.1
    have HI : Hid (adB c s.ck = true ↔ AdaptsS (bitAt c.1 c.2) (bitAt s.ck.1 s.ck.2)) := hiff
    clear hB hiff
    go_wp2_with (first
      | (go_at_call 64; refine (None_any c.1 c.2 _).mono ?_; rintro e w2 ⟨hK, hb2⟩; subst hK; have hB2 := HB.out.below hb2; have hBx := hB2; obtain ⟨hS2, ⟨x0, x1, _, _⟩, hbz, hz0, hz1⟩ := hBx; have b0 := hS2.c 0; have b1 := hS2.c 1; have b2 := hS2.c 2; have b3 := hS2.c 3; have b4 := hS2.c 4; have b5 := hS2.c 5; have b6 := hS2.c 6; have b7 := hS2.c 7; have b8 := hS2.c 8; simp only [stCells, List.getElem?_cons_zero, List.getElem?_cons_succ] at b0 b1 b2 b3 b4 b5 b6 b7 b8))
    refine (Size_any c.1 c.2 s.ck.1 s.ck.2 w2 hwc.1 hck.1 hwc.2.1 hwc.2.2 hck.2.1 hck.2.2).mono ?_
    rintro e w3 ⟨⟨sz, r, rfl, HR⟩, hb3⟩
    have HR2 : Hid (r = adB c s.ck) := by
      show r = adB c s.ck
      have h1 := HR.out.1
      have h2 := HI.out
      cases r <;> cases hx : adB c s.ck <;> simp_all
    go_wp2
    go_ret
    exact ⟨ret_bool (by rw [HF.out, HR2.out]), hbz.trans (hb3.mono (by omega))⟩

set_option maxRecDepth 100000 in
set_option maxRecDepth 50000 in
set_option maxHeartbeats 2000000 in
theorem fitsMerge_any (qs : List (St × Value)) (p : Option Addr) (cap : Nat) (s : St) (up : Option Addr) (uc : Nat) (w : World) (hr : RS w p qs)
    (hu : Reads w (.slice up s.uses.length uc) 1 s.uses.length (ints s.uses)) (hux : ∀ x ∈ s.uses, x < qs.length) (hck : Wok 1048576 s.ck) (hwd : Wok 1048576 s.wd) :
    Calls Try.prog 83 #[.slice p qs.length cap, .agg #[.int .i64 s.no, .int .i64 s.kind, .string (S s.name), .slice up s.uses.length uc, .int .i64 s.num, .string (bs s.wd.1), .string (bs s.wd.2), .string (bs s.ck.1), .string (bs s.ck.2)]] w
      fun e w' => e = .returned (.bool (fitMg (qs.map Prod.fst) s)) ∧ Below w.heap.size w w' := by
  have hS := Z1_s w s up uc
  have hbw := Z1_below w s up uc
  have b0 := hS.c 0
  have b1 := hS.c 1
  have b2 := hS.c 2
  have b3 := hS.c 3
  have b4 := hS.c 4
  have b5 := hS.c 5
  have b6 := hS.c 6
  have b7 := hS.c 7
  have b8 := hS.c 8
  simp only [stCells, List.getElem?_cons_zero, List.getElem?_cons_succ] at b0 b1 b2 b3 b4 b5 b6 b7 b8
  obtain ⟨c0, hc0⟩ : ∃ c, ucL (qs.map Prod.fst) s 0 = c := ⟨_, rfl⟩
  obtain ⟨c1, hc1⟩ : ∃ c, ucL (qs.map Prod.fst) s 1 = c := ⟨_, rfl⟩
  have hcall0 : ∀ W, Below w.heap.size w W → _ := fun W hW => usedClock_any qs p cap s up uc 0 W (by omega) (hr.below hW (Nat.le_refl _)) (hu.below hW (Nat.le_refl _)) hux
  have hcall1 : ∀ W, Below w.heap.size w W → _ := fun W hW => usedClock_any qs p cap s up uc 1 W (by omega) (hr.below hW (Nat.le_refl _)) (hu.below hW (Nat.le_refl _)) hux
  rw [hc0] at hcall0
  rw [hc1] at hcall1
  obtain ⟨o1, ho1⟩ : ∃ o, onW s.ck s.wd = o := ⟨_, rfl⟩
  obtain ⟨o2, ho2⟩ : ∃ o, onW s.ck (notW s.wd) = o := ⟨_, rfl⟩
  have HF : Hid (fitMg (qs.map Prod.fst) s = (o1 == c0 && o2 == c1)) := by show fitMg _ _ = _; unfold fitMg; rw [hc0, hc1, ho1, ho2]
  have HO1 : Hid (onW s.ck s.wd = o1) := ho1
  have HO2 : Hid (onW s.ck (notW s.wd) = o2) := ho2
  clear hc0 hc1 hr hu ho1 ho2
  go_enter Try.func83, Try.ntmps83
  go_wp2_with fail
  have hon := On_m s.ck s.wd (Z1 w s up uc) hck hwd
  rw [HO1.out] at hon
  refine hon.mono ?_
  rintro e w1 ⟨⟨hK, _⟩, hb1⟩
  unfold CkIs at hK
  subst hK
  have hz := hb1.size
  rw [Z1_size] at hz
  have hB := Bun1.mk1 (c0 := o1) (hbw.trans (hb1.mono (by rw [Z1_size]; omega))) (hS.below hb1 (by rw [Z1_size]; omega)) (by omega)
  obtain ⟨W2, hW2⟩ : ∃ W2, W2 = w1.alloc (Obj.cells #[.string (bs o1.1), .string (bs o1.2)] 74) := ⟨_, rfl⟩
  rw [← hW2] at hB
  have HB : Hid (Bun1 w W2 s up uc w1.heap.size o1) := hB
  clear hon b0 b1 b2 b3 b4 b5 b6 b7 b8 hS
  clear hB
  go_wp2
  rw [← hW2]
  clear hW2
  obtain ⟨hS2, ⟨x0, x1, _, _⟩, hbz, hz0, hz1⟩ := HB.out
  have b0 := hS2.c 0
  have b1 := hS2.c 1
  have b2 := hS2.c 2
  have b3 := hS2.c 3
  have b4 := hS2.c 4
  have b5 := hS2.c 5
  have b6 := hS2.c 6
  have b7 := hS2.c 7
  have b8 := hS2.c 8
  simp only [stCells, List.getElem?_cons_zero, List.getElem?_cons_succ] at b0 b1 b2 b3 b4 b5 b6 b7 b8
  have hlt0 : w.heap.size < W2.heap.size := hz0
  go_cut [6] from 12 (fun s6 wx => ∃ x6, s6 = .pointer (some ⟨x6, 0, none⟩) ∧ Hid (Bun2 w wx s up uc w1.heap.size o1 x6 o2))
  case first =>
    go_region_with (first
        | (go_at_call 101; refine (Not_m s.wd _ hwd).mono ?_; rintro e w3 ⟨⟨hK, HN⟩, hb3⟩; unfold CkIs at hK; subst hK; have hB3 : Bun1 w w3 s up uc w1.heap.size o1 := (by first | exact Bun1.below HB.out hb3 | exact Bun1.below HB.out.dr hb3 | exact Bun1.below (HB.out.al _) hb3 | exact Bun1.below (HB.out.al _).dr hb3 | exact Bun1.below (HB.out.dr.al _) hb3); have hBx3 := hB3; obtain ⟨hS3, _, _, hz3, _⟩ := hBx3; have d7 : w3.cell? ⟨w.heap.size, 7, none⟩ = some (.string (bs s.ck.1)) := hS3.c 7; have d8 : w3.cell? ⟨w.heap.size, 8, none⟩ = some (.string (bs s.ck.2)) := hS3.c 8; try (have z3 : Boxed w3 W2.heap.size ⟨#[]⟩ ⟨#[]⟩ := (by first | exact (newbox W2).below' hb3 | exact (newbox_dr W2).below' hb3 | exact (newbox_dr2 W2).below' hb3); have z3' := z3; obtain ⟨k0, k1, l0, l1⟩ := z3'))
        | (go_at_call 80; refine (On_m s.ck (notW s.wd) _ hck HN.out).mono ?_; rintro e w4 ⟨⟨hK, hK2⟩, hb4⟩; unfold CkIs at hK; rw [HO2.out] at hK; subst hK; have hz4 := hb4.size; have hB4 : Bun1 w w4 s up uc w1.heap.size o1 := (by first | exact Bun1.below hB3 hb4 | exact Bun1.below (hB3.al _) hb4); (first | (have z4 : Boxed w4 w3.heap.size ⟨#[]⟩ ⟨#[]⟩ := (newbox w3).below' hb4; have z4' := z4; obtain ⟨m0, m1, n0, n1⟩ := z4') | (have z4 : Boxed w4 W2.heap.size ⟨#[]⟩ ⟨#[]⟩ := z3.below' hb4; have z4' := z4; obtain ⟨m0, m1, n0, n1⟩ := z4') | skip)))
    all_goals (go_wp2_with fail; go_meet)
    all_goals (case rel => first | exact ⟨_, rfl, Bun2.mkA hB4⟩ | exact ⟨_, rfl, Bun2.mkB hB4 z4 hz0 hz1⟩ | exact ⟨_, rfl, Bun2.mkB hB4 z4 hB3.2.2.2.1 hB3.2.2.2.2⟩)
  case rest =>
    obtain ⟨x6, rfl, HC⟩ := hcut
    clear b0 b1 b2 b3 b4 b5 b6 b7 b8 x0 x1 HB hS2 hbz
    have hbc : Below w.heap.size w wc := HC.out.2.2.2.1
    have hBc := HC.out
    obtain ⟨hSc, ⟨a0, a1, _, _⟩, ⟨b0, b1, _, _⟩, hbzc, _, _, _⟩ := hBc
    have d0 : wc.cell? ⟨w.heap.size, 0, none⟩ = some (.int .i64 s.no) := hSc.c 0
    have d1 : wc.cell? ⟨w.heap.size, 1, none⟩ = some (.int .i64 s.kind) := hSc.c 1
    have d2 : wc.cell? ⟨w.heap.size, 2, none⟩ = some (.string (S s.name)) := hSc.c 2
    have d3 : wc.cell? ⟨w.heap.size, 3, none⟩ = some (.slice up s.uses.length uc) := hSc.c 3
    have d4 : wc.cell? ⟨w.heap.size, 4, none⟩ = some (.int .i64 s.num) := hSc.c 4
    have d5 : wc.cell? ⟨w.heap.size, 5, none⟩ = some (.string (bs s.wd.1)) := hSc.c 5
    have d6 : wc.cell? ⟨w.heap.size, 6, none⟩ = some (.string (bs s.wd.2)) := hSc.c 6
    have d7 : wc.cell? ⟨w.heap.size, 7, none⟩ = some (.string (bs s.ck.1)) := hSc.c 7
    have d8 : wc.cell? ⟨w.heap.size, 8, none⟩ = some (.string (bs s.ck.2)) := hSc.c 8
    by_cases h1 : o1 = c0
    · subst h1
      by_cases h2 : o2 = c1
      · subst h2
        go_wp2
        go_region_held3 (fun w' => w'.cell? ⟨w.heap.size, 0, none⟩ = some (.int .i64 s.no) ∧ w'.cell? ⟨w.heap.size, 1, none⟩ = some (.int .i64 s.kind) ∧ w'.cell? ⟨w.heap.size, 2, none⟩ = some (.string (S s.name)) ∧ w'.cell? ⟨w.heap.size, 3, none⟩ = some (.slice up s.uses.length uc) ∧ w'.cell? ⟨w.heap.size, 4, none⟩ = some (.int .i64 s.num) ∧ w'.cell? ⟨w.heap.size, 5, none⟩ = some (.string (bs s.wd.1)) ∧ w'.cell? ⟨w.heap.size, 6, none⟩ = some (.string (bs s.wd.2)) ∧ w'.cell? ⟨w.heap.size, 7, none⟩ = some (.string (bs s.ck.1)) ∧ w'.cell? ⟨w.heap.size, 8, none⟩ = some (.string (bs s.ck.2)) ∧ w'.cell? ⟨w1.heap.size, 0, none⟩ = some (.string (bs o1.1)) ∧ w'.cell? ⟨w1.heap.size, 1, none⟩ = some (.string (bs o1.2)) ∧ w'.cell? ⟨x6, 0, none⟩ = some (.string (bs o2.1)) ∧ w'.cell? ⟨x6, 1, none⟩ = some (.string (bs o2.2))) (go_keep)
          (first
              | (go_at_call_of 56 (Value.int IntKind.i64 0); refine (hcall0 wc.drew hbc.drew).mono ?_; rintro e w5 ⟨hK, hb5⟩; unfold CkIs at hK; subst hK; have hb5' : Below wc.heap.size wc w5 := below_undrew (W := wc) hb5; have hB5 := HC.out.below hb5'; have hBx5 := hB5; obtain ⟨hS5, ⟨p0, p1, _, _⟩, ⟨q0, q1, _, _⟩, hbz5, _, _, _⟩ := hBx5; have r0 : w5.cell? ⟨w.heap.size, 0, none⟩ = some (.int .i64 s.no) := hS5.c 0; have r1 : w5.cell? ⟨w.heap.size, 1, none⟩ = some (.int .i64 s.kind) := hS5.c 1; have r2 : w5.cell? ⟨w.heap.size, 2, none⟩ = some (.string (S s.name)) := hS5.c 2; have r3 : w5.cell? ⟨w.heap.size, 3, none⟩ = some (.slice up s.uses.length uc) := hS5.c 3; have r4 : w5.cell? ⟨w.heap.size, 4, none⟩ = some (.int .i64 s.num) := hS5.c 4; have r5 : w5.cell? ⟨w.heap.size, 5, none⟩ = some (.string (bs s.wd.1)) := hS5.c 5; have r6 : w5.cell? ⟨w.heap.size, 6, none⟩ = some (.string (bs s.wd.2)) := hS5.c 6; have r7 : w5.cell? ⟨w.heap.size, 7, none⟩ = some (.string (bs s.ck.1)) := hS5.c 7; have r8 : w5.cell? ⟨w.heap.size, 8, none⟩ = some (.string (bs s.ck.2)) := hS5.c 8)
              | (go_at_call_of 56 (Value.int IntKind.i64 1); refine (hcall1 w5 hB5.2.2.2.1).mono ?_; rintro e w6 ⟨hK, hb6⟩; unfold CkIs at hK; subst hK; have hB6 := hB5.below hb6; have hBx6 := hB6; obtain ⟨hS6, ⟨pp0, pp1, _, _⟩, ⟨qq0, qq1, _, _⟩, hbz6, _, _, _⟩ := hBx6; have rr0 : w6.cell? ⟨w.heap.size, 0, none⟩ = some (.int .i64 s.no) := hS6.c 0; have rr1 : w6.cell? ⟨w.heap.size, 1, none⟩ = some (.int .i64 s.kind) := hS6.c 1; have rr2 : w6.cell? ⟨w.heap.size, 2, none⟩ = some (.string (S s.name)) := hS6.c 2; have rr3 : w6.cell? ⟨w.heap.size, 3, none⟩ = some (.slice up s.uses.length uc) := hS6.c 3; have rr4 : w6.cell? ⟨w.heap.size, 4, none⟩ = some (.int .i64 s.num) := hS6.c 4; have rr5 : w6.cell? ⟨w.heap.size, 5, none⟩ = some (.string (bs s.wd.1)) := hS6.c 5; have rr6 : w6.cell? ⟨w.heap.size, 6, none⟩ = some (.string (bs s.wd.2)) := hS6.c 6; have rr7 : w6.cell? ⟨w.heap.size, 7, none⟩ = some (.string (bs s.ck.1)) := hS6.c 7; have rr8 : w6.cell? ⟨w.heap.size, 8, none⟩ = some (.string (bs s.ck.2)) := hS6.c 8))
        go_wp2
        go_ret
        exact ⟨ret_bool (by rw [HF.out]; simp), hB6.2.2.2.1⟩
      · by_cases h3 : o2.1 = c1.1
        · have gB1 : ((bs o2.1).toList == (bs c1.1).toList) = true := by rw [h3]; simp
          have gB2 : ((bs o2.2).toList == (bs c1.2).toList) = false := bs_beq_false (fun h4 => h2 (Prod.ext h3 h4))
          clear h3
          go_wp2
          go_region_held3 (fun w' => w'.cell? ⟨w.heap.size, 0, none⟩ = some (.int .i64 s.no) ∧ w'.cell? ⟨w.heap.size, 1, none⟩ = some (.int .i64 s.kind) ∧ w'.cell? ⟨w.heap.size, 2, none⟩ = some (.string (S s.name)) ∧ w'.cell? ⟨w.heap.size, 3, none⟩ = some (.slice up s.uses.length uc) ∧ w'.cell? ⟨w.heap.size, 4, none⟩ = some (.int .i64 s.num) ∧ w'.cell? ⟨w.heap.size, 5, none⟩ = some (.string (bs s.wd.1)) ∧ w'.cell? ⟨w.heap.size, 6, none⟩ = some (.string (bs s.wd.2)) ∧ w'.cell? ⟨w.heap.size, 7, none⟩ = some (.string (bs s.ck.1)) ∧ w'.cell? ⟨w.heap.size, 8, none⟩ = some (.string (bs s.ck.2)) ∧ w'.cell? ⟨w1.heap.size, 0, none⟩ = some (.string (bs o1.1)) ∧ w'.cell? ⟨w1.heap.size, 1, none⟩ = some (.string (bs o1.2)) ∧ w'.cell? ⟨x6, 0, none⟩ = some (.string (bs o2.1)) ∧ w'.cell? ⟨x6, 1, none⟩ = some (.string (bs o2.2))) (go_keep)
            (first
                | (go_at_call_of 56 (Value.int IntKind.i64 0); refine (hcall0 wc.drew hbc.drew).mono ?_; rintro e w5 ⟨hK, hb5⟩; unfold CkIs at hK; subst hK; have hb5' : Below wc.heap.size wc w5 := below_undrew (W := wc) hb5; have hB5 := HC.out.below hb5'; have hBx5 := hB5; obtain ⟨hS5, ⟨p0, p1, _, _⟩, ⟨q0, q1, _, _⟩, hbz5, _, _, _⟩ := hBx5; have r0 : w5.cell? ⟨w.heap.size, 0, none⟩ = some (.int .i64 s.no) := hS5.c 0; have r1 : w5.cell? ⟨w.heap.size, 1, none⟩ = some (.int .i64 s.kind) := hS5.c 1; have r2 : w5.cell? ⟨w.heap.size, 2, none⟩ = some (.string (S s.name)) := hS5.c 2; have r3 : w5.cell? ⟨w.heap.size, 3, none⟩ = some (.slice up s.uses.length uc) := hS5.c 3; have r4 : w5.cell? ⟨w.heap.size, 4, none⟩ = some (.int .i64 s.num) := hS5.c 4; have r5 : w5.cell? ⟨w.heap.size, 5, none⟩ = some (.string (bs s.wd.1)) := hS5.c 5; have r6 : w5.cell? ⟨w.heap.size, 6, none⟩ = some (.string (bs s.wd.2)) := hS5.c 6; have r7 : w5.cell? ⟨w.heap.size, 7, none⟩ = some (.string (bs s.ck.1)) := hS5.c 7; have r8 : w5.cell? ⟨w.heap.size, 8, none⟩ = some (.string (bs s.ck.2)) := hS5.c 8)
                | (go_at_call_of 56 (Value.int IntKind.i64 1); refine (hcall1 w5 hB5.2.2.2.1).mono ?_; rintro e w6 ⟨hK, hb6⟩; unfold CkIs at hK; subst hK; have hB6 := hB5.below hb6; have hBx6 := hB6; obtain ⟨hS6, ⟨pp0, pp1, _, _⟩, ⟨qq0, qq1, _, _⟩, hbz6, _, _, _⟩ := hBx6; have rr0 : w6.cell? ⟨w.heap.size, 0, none⟩ = some (.int .i64 s.no) := hS6.c 0; have rr1 : w6.cell? ⟨w.heap.size, 1, none⟩ = some (.int .i64 s.kind) := hS6.c 1; have rr2 : w6.cell? ⟨w.heap.size, 2, none⟩ = some (.string (S s.name)) := hS6.c 2; have rr3 : w6.cell? ⟨w.heap.size, 3, none⟩ = some (.slice up s.uses.length uc) := hS6.c 3; have rr4 : w6.cell? ⟨w.heap.size, 4, none⟩ = some (.int .i64 s.num) := hS6.c 4; have rr5 : w6.cell? ⟨w.heap.size, 5, none⟩ = some (.string (bs s.wd.1)) := hS6.c 5; have rr6 : w6.cell? ⟨w.heap.size, 6, none⟩ = some (.string (bs s.wd.2)) := hS6.c 6; have rr7 : w6.cell? ⟨w.heap.size, 7, none⟩ = some (.string (bs s.ck.1)) := hS6.c 7; have rr8 : w6.cell? ⟨w.heap.size, 8, none⟩ = some (.string (bs s.ck.2)) := hS6.c 8))
          go_wp2
          go_ret
          exact ⟨ret_bool (by rw [HF.out]; simp [h2]), hB6.2.2.2.1⟩
        · have gA : ((bs o2.1).toList == (bs c1.1).toList) = false := bs_beq_false h3
          go_wp2
          go_region_held3 (fun w' => w'.cell? ⟨w.heap.size, 0, none⟩ = some (.int .i64 s.no) ∧ w'.cell? ⟨w.heap.size, 1, none⟩ = some (.int .i64 s.kind) ∧ w'.cell? ⟨w.heap.size, 2, none⟩ = some (.string (S s.name)) ∧ w'.cell? ⟨w.heap.size, 3, none⟩ = some (.slice up s.uses.length uc) ∧ w'.cell? ⟨w.heap.size, 4, none⟩ = some (.int .i64 s.num) ∧ w'.cell? ⟨w.heap.size, 5, none⟩ = some (.string (bs s.wd.1)) ∧ w'.cell? ⟨w.heap.size, 6, none⟩ = some (.string (bs s.wd.2)) ∧ w'.cell? ⟨w.heap.size, 7, none⟩ = some (.string (bs s.ck.1)) ∧ w'.cell? ⟨w.heap.size, 8, none⟩ = some (.string (bs s.ck.2)) ∧ w'.cell? ⟨w1.heap.size, 0, none⟩ = some (.string (bs o1.1)) ∧ w'.cell? ⟨w1.heap.size, 1, none⟩ = some (.string (bs o1.2)) ∧ w'.cell? ⟨x6, 0, none⟩ = some (.string (bs o2.1)) ∧ w'.cell? ⟨x6, 1, none⟩ = some (.string (bs o2.2))) (go_keep)
            (first
                | (go_at_call_of 56 (Value.int IntKind.i64 0); refine (hcall0 wc.drew hbc.drew).mono ?_; rintro e w5 ⟨hK, hb5⟩; unfold CkIs at hK; subst hK; have hb5' : Below wc.heap.size wc w5 := below_undrew (W := wc) hb5; have hB5 := HC.out.below hb5'; have hBx5 := hB5; obtain ⟨hS5, ⟨p0, p1, _, _⟩, ⟨q0, q1, _, _⟩, hbz5, _, _, _⟩ := hBx5; have r0 : w5.cell? ⟨w.heap.size, 0, none⟩ = some (.int .i64 s.no) := hS5.c 0; have r1 : w5.cell? ⟨w.heap.size, 1, none⟩ = some (.int .i64 s.kind) := hS5.c 1; have r2 : w5.cell? ⟨w.heap.size, 2, none⟩ = some (.string (S s.name)) := hS5.c 2; have r3 : w5.cell? ⟨w.heap.size, 3, none⟩ = some (.slice up s.uses.length uc) := hS5.c 3; have r4 : w5.cell? ⟨w.heap.size, 4, none⟩ = some (.int .i64 s.num) := hS5.c 4; have r5 : w5.cell? ⟨w.heap.size, 5, none⟩ = some (.string (bs s.wd.1)) := hS5.c 5; have r6 : w5.cell? ⟨w.heap.size, 6, none⟩ = some (.string (bs s.wd.2)) := hS5.c 6; have r7 : w5.cell? ⟨w.heap.size, 7, none⟩ = some (.string (bs s.ck.1)) := hS5.c 7; have r8 : w5.cell? ⟨w.heap.size, 8, none⟩ = some (.string (bs s.ck.2)) := hS5.c 8)
                | (go_at_call_of 56 (Value.int IntKind.i64 1); refine (hcall1 w5 hB5.2.2.2.1).mono ?_; rintro e w6 ⟨hK, hb6⟩; unfold CkIs at hK; subst hK; have hB6 := hB5.below hb6; have hBx6 := hB6; obtain ⟨hS6, ⟨pp0, pp1, _, _⟩, ⟨qq0, qq1, _, _⟩, hbz6, _, _, _⟩ := hBx6; have rr0 : w6.cell? ⟨w.heap.size, 0, none⟩ = some (.int .i64 s.no) := hS6.c 0; have rr1 : w6.cell? ⟨w.heap.size, 1, none⟩ = some (.int .i64 s.kind) := hS6.c 1; have rr2 : w6.cell? ⟨w.heap.size, 2, none⟩ = some (.string (S s.name)) := hS6.c 2; have rr3 : w6.cell? ⟨w.heap.size, 3, none⟩ = some (.slice up s.uses.length uc) := hS6.c 3; have rr4 : w6.cell? ⟨w.heap.size, 4, none⟩ = some (.int .i64 s.num) := hS6.c 4; have rr5 : w6.cell? ⟨w.heap.size, 5, none⟩ = some (.string (bs s.wd.1)) := hS6.c 5; have rr6 : w6.cell? ⟨w.heap.size, 6, none⟩ = some (.string (bs s.wd.2)) := hS6.c 6; have rr7 : w6.cell? ⟨w.heap.size, 7, none⟩ = some (.string (bs s.ck.1)) := hS6.c 7; have rr8 : w6.cell? ⟨w.heap.size, 8, none⟩ = some (.string (bs s.ck.2)) := hS6.c 8))
          go_wp2
          go_ret
          exact ⟨ret_bool (by rw [HF.out]; simp [h2]), hB6.2.2.2.1⟩
    · by_cases h3 : o1.1 = c0.1
      · have gB1 : ((bs o1.1).toList == (bs c0.1).toList) = true := by rw [h3]; simp
        have gB2 : ((bs o1.2).toList == (bs c0.2).toList) = false := bs_beq_false (fun h4 => h1 (Prod.ext h3 h4))
        clear h3
        go_wp2
        refine wp_region_held_drew (S := (fun w' => w'.cell? ⟨w.heap.size, 0, none⟩ = some (.int .i64 s.no) ∧ w'.cell? ⟨w.heap.size, 1, none⟩ = some (.int .i64 s.kind) ∧ w'.cell? ⟨w.heap.size, 2, none⟩ = some (.string (S s.name)) ∧ w'.cell? ⟨w.heap.size, 3, none⟩ = some (.slice up s.uses.length uc) ∧ w'.cell? ⟨w.heap.size, 4, none⟩ = some (.int .i64 s.num) ∧ w'.cell? ⟨w.heap.size, 5, none⟩ = some (.string (bs s.wd.1)) ∧ w'.cell? ⟨w.heap.size, 6, none⟩ = some (.string (bs s.wd.2)) ∧ w'.cell? ⟨w.heap.size, 7, none⟩ = some (.string (bs s.ck.1)) ∧ w'.cell? ⟨w.heap.size, 8, none⟩ = some (.string (bs s.ck.2)) ∧ w'.cell? ⟨w1.heap.size, 0, none⟩ = some (.string (bs o1.1)) ∧ w'.cell? ⟨w1.heap.size, 1, none⟩ = some (.string (bs o1.2)) ∧ w'.cell? ⟨x6, 0, none⟩ = some (.string (bs o2.1)) ∧ w'.cell? ⟨x6, 1, none⟩ = some (.string (bs o2.2)))) (by kernel_rfl) ?_ (fun hHeld => ?_)
        · go_keep
        refine wpAnyH_take (i := 0) (v := .agg #[.string (bs o1.1), .string (bs o1.2)]) rfl (by kernel_rfl) (by kernel_rfl) (by kernel_rfl) (fun _ _ _ h => h) (Or.inl ⟨by rfl, ?_⟩) hHeld ?_
        · intro w' hSw; (try dsimp only at hSw); go_simp
        simp only [Act.put, List.getElem_toArray, List.getElem_cons_zero, List.setIfInBounds_toArray, List.set_cons_zero, List.set_cons_succ]
        refine wpAnyH_take (i := 1) (v := .slice p qs.length cap) rfl (by kernel_rfl) (by kernel_rfl) (by kernel_rfl) (fun _ _ _ h => h) (Or.inl ⟨by rfl, ?_⟩) hHeld ?_
        · intro w' hSw; (try dsimp only at hSw); go_simp
        simp only [Act.put, List.getElem_toArray, List.getElem_cons_zero, List.getElem_cons_succ, List.setIfInBounds_toArray, List.set_cons_zero, List.set_cons_succ]
        refine wpAnyH_take (i := 2) (v := .agg #[.int .i64 s.no, .int .i64 s.kind, .string (S s.name), .slice up s.uses.length uc, .int .i64 s.num, .string (bs s.wd.1), .string (bs s.wd.2), .string (bs s.ck.1), .string (bs s.ck.2)]) rfl (by kernel_rfl) (by kernel_rfl) (by kernel_rfl) (fun _ _ _ h => h) (Or.inl ⟨by rfl, ?_⟩) hHeld ?_
        · intro w' hSw; (try dsimp only at hSw); go_simp
        simp only [Act.put, List.getElem_toArray, List.getElem_cons_zero, List.getElem_cons_succ, List.setIfInBounds_toArray, List.set_cons_zero, List.set_cons_succ]
        refine wpAnyH_ready (rs := [3]) (by kernel_rfl) (by simp) ?_
        refine AllReadyH.cons (o := _) rfl (fun K hK => ?_) AllReadyH.nil
        go_simp
        refine (hcall0 wc.drew hbc.drew).mono ?_
        rintro e w5 ⟨hK5, hb5⟩
        unfold CkIs at hK5
        subst hK5
        have hb5' : Below wc.heap.size wc w5 := below_undrew (W := wc) hb5
        have hB5 := HC.out.below hb5'
        have hBx5 := hB5
        obtain ⟨hS5, ⟨p0, p1, _, _⟩, ⟨q0, q1, _, _⟩, hbz5, _, _, _⟩ := hBx5
        have r0 : w5.cell? ⟨w.heap.size, 0, none⟩ = some (.int .i64 s.no) := hS5.c 0
        have r1 : w5.cell? ⟨w.heap.size, 1, none⟩ = some (.int .i64 s.kind) := hS5.c 1
        have r2 : w5.cell? ⟨w.heap.size, 2, none⟩ = some (.string (S s.name)) := hS5.c 2
        have r3 : w5.cell? ⟨w.heap.size, 3, none⟩ = some (.slice up s.uses.length uc) := hS5.c 3
        have r4 : w5.cell? ⟨w.heap.size, 4, none⟩ = some (.int .i64 s.num) := hS5.c 4
        have r5 : w5.cell? ⟨w.heap.size, 5, none⟩ = some (.string (bs s.wd.1)) := hS5.c 5
        have r6 : w5.cell? ⟨w.heap.size, 6, none⟩ = some (.string (bs s.wd.2)) := hS5.c 6
        have r7 : w5.cell? ⟨w.heap.size, 7, none⟩ = some (.string (bs s.ck.1)) := hS5.c 7
        have r8 : w5.cell? ⟨w.heap.size, 8, none⟩ = some (.string (bs s.ck.2)) := hS5.c 8
        simp only []
        clear hHeld
        refine hK.out _ _ ?_ (fun hHeld2 => ?_)
        · go_keep
        clear hK K
        refine wpAnyH_take (i := 4) (v := .bool false) rfl (by kernel_rfl) (by kernel_rfl) (by kernel_rfl) (fun _ _ _ h => h) (Or.inl ⟨by rfl, ?_⟩) hHeld2 ?_
        · intro w' hSw; (try dsimp only at hSw); go_simp
        simp only [Act.put, List.getElem_toArray, List.getElem_cons_zero, List.getElem_cons_succ, List.setIfInBounds_toArray, List.set_cons_zero, List.set_cons_succ]
        refine wpAnyH_take (i := 5) (v := .bool false) rfl (by kernel_rfl) (by kernel_rfl) (by kernel_rfl) (fun _ _ _ h => h) (Or.inl ⟨by rfl, ?_⟩) hHeld2 ?_
        · intro w' hSw; (try dsimp only at hSw); go_simp
        simp only [Act.put, List.getElem_toArray, List.getElem_cons_zero, List.getElem_cons_succ, List.setIfInBounds_toArray, List.set_cons_zero, List.set_cons_succ]
        refine wpAnyH_take (i := 6) (v := undef) rfl (by kernel_rfl) (by kernel_rfl) (by kernel_rfl) (fun _ _ _ h => h) (Or.inr ⟨by rfl, rfl⟩) hHeld2 ?_
        simp only [Act.put, List.getElem_toArray, List.getElem_cons_zero, List.getElem_cons_succ, List.setIfInBounds_toArray, List.set_cons_zero, List.set_cons_succ]
        refine wpAnyH_take (i := 7) (v := undef) rfl (by kernel_rfl) (by kernel_rfl) (by kernel_rfl) (fun _ _ _ h => h) (Or.inr ⟨by rfl, rfl⟩) hHeld2 ?_
        simp only [Act.put, List.getElem_toArray, List.getElem_cons_zero, List.getElem_cons_succ, List.setIfInBounds_toArray, List.set_cons_zero, List.set_cons_succ]
        refine wpAnyH_take (i := 8) (v := undef) rfl (by kernel_rfl) (by kernel_rfl) (by kernel_rfl) (fun _ _ _ h => h) (Or.inr ⟨by rfl, rfl⟩) hHeld2 ?_
        simp only [Act.put, List.getElem_toArray, List.getElem_cons_zero, List.getElem_cons_succ, List.setIfInBounds_toArray, List.set_cons_zero, List.set_cons_succ]
        refine wpAnyH_take (i := 9) (v := undef) rfl (by kernel_rfl) (by kernel_rfl) (by kernel_rfl) (fun _ _ _ h => h) (Or.inr ⟨by rfl, rfl⟩) hHeld2 ?_
        simp only [Act.put, List.getElem_toArray, List.getElem_cons_zero, List.getElem_cons_succ, List.setIfInBounds_toArray, List.set_cons_zero, List.set_cons_succ]
        refine wpAnyH_take (i := 10) (v := undef) rfl (by kernel_rfl) (by kernel_rfl) (by kernel_rfl) (fun _ _ _ h => h) (Or.inr ⟨by rfl, rfl⟩) hHeld2 ?_
        simp only [Act.put, List.getElem_toArray, List.getElem_cons_zero, List.getElem_cons_succ, List.setIfInBounds_toArray, List.set_cons_zero, List.set_cons_succ]
        refine wpAnyH_take (i := 11) (v := .bool false) rfl (by kernel_rfl) (by kernel_rfl) (by kernel_rfl) (fun _ _ _ h => h) (Or.inl ⟨by rfl, ?_⟩) hHeld2 ?_
        · intro w' hSw; (try dsimp only at hSw); go_simp
        simp only [Act.put, List.getElem_toArray, List.getElem_cons_zero, List.getElem_cons_succ, List.setIfInBounds_toArray, List.set_cons_zero, List.set_cons_succ]
        refine wpAnyH_take (i := 12) (v := .bool false) rfl (by kernel_rfl) (by kernel_rfl) (by kernel_rfl) (fun _ _ _ h => h) (Or.inl ⟨by rfl, ?_⟩) hHeld2 ?_
        · intro w' hSw; (try dsimp only at hSw); go_simp
        simp only [Act.put, List.getElem_toArray, List.getElem_cons_zero, List.getElem_cons_succ, List.setIfInBounds_toArray, List.set_cons_zero, List.set_cons_succ]
        refine wpAnyH_done (by kernel_rfl) ?_ _
        go_wp2
        go_ret
        exact ⟨ret_bool (by rw [HF.out]; simp [h1]), hB5.2.2.2.1⟩
      · have gA : ((bs o1.1).toList == (bs c0.1).toList) = false := bs_beq_false h3
        go_wp2
        refine wp_region_held_drew (S := (fun w' => w'.cell? ⟨w.heap.size, 0, none⟩ = some (.int .i64 s.no) ∧ w'.cell? ⟨w.heap.size, 1, none⟩ = some (.int .i64 s.kind) ∧ w'.cell? ⟨w.heap.size, 2, none⟩ = some (.string (S s.name)) ∧ w'.cell? ⟨w.heap.size, 3, none⟩ = some (.slice up s.uses.length uc) ∧ w'.cell? ⟨w.heap.size, 4, none⟩ = some (.int .i64 s.num) ∧ w'.cell? ⟨w.heap.size, 5, none⟩ = some (.string (bs s.wd.1)) ∧ w'.cell? ⟨w.heap.size, 6, none⟩ = some (.string (bs s.wd.2)) ∧ w'.cell? ⟨w.heap.size, 7, none⟩ = some (.string (bs s.ck.1)) ∧ w'.cell? ⟨w.heap.size, 8, none⟩ = some (.string (bs s.ck.2)) ∧ w'.cell? ⟨w1.heap.size, 0, none⟩ = some (.string (bs o1.1)) ∧ w'.cell? ⟨w1.heap.size, 1, none⟩ = some (.string (bs o1.2)) ∧ w'.cell? ⟨x6, 0, none⟩ = some (.string (bs o2.1)) ∧ w'.cell? ⟨x6, 1, none⟩ = some (.string (bs o2.2)))) (by kernel_rfl) ?_ (fun hHeld => ?_)
        · go_keep
        refine wpAnyH_take (i := 0) (v := .agg #[.string (bs o1.1), .string (bs o1.2)]) rfl (by kernel_rfl) (by kernel_rfl) (by kernel_rfl) (fun _ _ _ h => h) (Or.inl ⟨by rfl, ?_⟩) hHeld ?_
        · intro w' hSw; (try dsimp only at hSw); go_simp
        simp only [Act.put, List.getElem_toArray, List.getElem_cons_zero, List.setIfInBounds_toArray, List.set_cons_zero, List.set_cons_succ]
        refine wpAnyH_take (i := 1) (v := .slice p qs.length cap) rfl (by kernel_rfl) (by kernel_rfl) (by kernel_rfl) (fun _ _ _ h => h) (Or.inl ⟨by rfl, ?_⟩) hHeld ?_
        · intro w' hSw; (try dsimp only at hSw); go_simp
        simp only [Act.put, List.getElem_toArray, List.getElem_cons_zero, List.getElem_cons_succ, List.setIfInBounds_toArray, List.set_cons_zero, List.set_cons_succ]
        refine wpAnyH_take (i := 2) (v := .agg #[.int .i64 s.no, .int .i64 s.kind, .string (S s.name), .slice up s.uses.length uc, .int .i64 s.num, .string (bs s.wd.1), .string (bs s.wd.2), .string (bs s.ck.1), .string (bs s.ck.2)]) rfl (by kernel_rfl) (by kernel_rfl) (by kernel_rfl) (fun _ _ _ h => h) (Or.inl ⟨by rfl, ?_⟩) hHeld ?_
        · intro w' hSw; (try dsimp only at hSw); go_simp
        simp only [Act.put, List.getElem_toArray, List.getElem_cons_zero, List.getElem_cons_succ, List.setIfInBounds_toArray, List.set_cons_zero, List.set_cons_succ]
        refine wpAnyH_ready (rs := [3]) (by kernel_rfl) (by simp) ?_
        refine AllReadyH.cons (o := _) rfl (fun K hK => ?_) AllReadyH.nil
        go_simp
        refine (hcall0 wc.drew hbc.drew).mono ?_
        rintro e w5 ⟨hK5, hb5⟩
        unfold CkIs at hK5
        subst hK5
        have hb5' : Below wc.heap.size wc w5 := below_undrew (W := wc) hb5
        have hB5 := HC.out.below hb5'
        have hBx5 := hB5
        obtain ⟨hS5, ⟨p0, p1, _, _⟩, ⟨q0, q1, _, _⟩, hbz5, _, _, _⟩ := hBx5
        have r0 : w5.cell? ⟨w.heap.size, 0, none⟩ = some (.int .i64 s.no) := hS5.c 0
        have r1 : w5.cell? ⟨w.heap.size, 1, none⟩ = some (.int .i64 s.kind) := hS5.c 1
        have r2 : w5.cell? ⟨w.heap.size, 2, none⟩ = some (.string (S s.name)) := hS5.c 2
        have r3 : w5.cell? ⟨w.heap.size, 3, none⟩ = some (.slice up s.uses.length uc) := hS5.c 3
        have r4 : w5.cell? ⟨w.heap.size, 4, none⟩ = some (.int .i64 s.num) := hS5.c 4
        have r5 : w5.cell? ⟨w.heap.size, 5, none⟩ = some (.string (bs s.wd.1)) := hS5.c 5
        have r6 : w5.cell? ⟨w.heap.size, 6, none⟩ = some (.string (bs s.wd.2)) := hS5.c 6
        have r7 : w5.cell? ⟨w.heap.size, 7, none⟩ = some (.string (bs s.ck.1)) := hS5.c 7
        have r8 : w5.cell? ⟨w.heap.size, 8, none⟩ = some (.string (bs s.ck.2)) := hS5.c 8
        simp only []
        clear hHeld
        refine hK.out _ _ ?_ (fun hHeld2 => ?_)
        · go_keep
        clear hK K
        refine wpAnyH_take (i := 4) (v := .bool false) rfl (by kernel_rfl) (by kernel_rfl) (by kernel_rfl) (fun _ _ _ h => h) (Or.inl ⟨by rfl, ?_⟩) hHeld2 ?_
        · intro w' hSw; (try dsimp only at hSw); go_simp
        simp only [Act.put, List.getElem_toArray, List.getElem_cons_zero, List.getElem_cons_succ, List.setIfInBounds_toArray, List.set_cons_zero, List.set_cons_succ]
        refine wpAnyH_take (i := 5) (v := .bool false) rfl (by kernel_rfl) (by kernel_rfl) (by kernel_rfl) (fun _ _ _ h => h) (Or.inl ⟨by rfl, ?_⟩) hHeld2 ?_
        · intro w' hSw; (try dsimp only at hSw); go_simp
        simp only [Act.put, List.getElem_toArray, List.getElem_cons_zero, List.getElem_cons_succ, List.setIfInBounds_toArray, List.set_cons_zero, List.set_cons_succ]
        refine wpAnyH_take (i := 6) (v := undef) rfl (by kernel_rfl) (by kernel_rfl) (by kernel_rfl) (fun _ _ _ h => h) (Or.inr ⟨by rfl, rfl⟩) hHeld2 ?_
        simp only [Act.put, List.getElem_toArray, List.getElem_cons_zero, List.getElem_cons_succ, List.setIfInBounds_toArray, List.set_cons_zero, List.set_cons_succ]
        refine wpAnyH_take (i := 7) (v := undef) rfl (by kernel_rfl) (by kernel_rfl) (by kernel_rfl) (fun _ _ _ h => h) (Or.inr ⟨by rfl, rfl⟩) hHeld2 ?_
        simp only [Act.put, List.getElem_toArray, List.getElem_cons_zero, List.getElem_cons_succ, List.setIfInBounds_toArray, List.set_cons_zero, List.set_cons_succ]
        refine wpAnyH_take (i := 8) (v := undef) rfl (by kernel_rfl) (by kernel_rfl) (by kernel_rfl) (fun _ _ _ h => h) (Or.inr ⟨by rfl, rfl⟩) hHeld2 ?_
        simp only [Act.put, List.getElem_toArray, List.getElem_cons_zero, List.getElem_cons_succ, List.setIfInBounds_toArray, List.set_cons_zero, List.set_cons_succ]
        refine wpAnyH_take (i := 9) (v := undef) rfl (by kernel_rfl) (by kernel_rfl) (by kernel_rfl) (fun _ _ _ h => h) (Or.inr ⟨by rfl, rfl⟩) hHeld2 ?_
        simp only [Act.put, List.getElem_toArray, List.getElem_cons_zero, List.getElem_cons_succ, List.setIfInBounds_toArray, List.set_cons_zero, List.set_cons_succ]
        refine wpAnyH_take (i := 10) (v := undef) rfl (by kernel_rfl) (by kernel_rfl) (by kernel_rfl) (fun _ _ _ h => h) (Or.inr ⟨by rfl, rfl⟩) hHeld2 ?_
        simp only [Act.put, List.getElem_toArray, List.getElem_cons_zero, List.getElem_cons_succ, List.setIfInBounds_toArray, List.set_cons_zero, List.set_cons_succ]
        refine wpAnyH_take (i := 11) (v := .bool false) rfl (by kernel_rfl) (by kernel_rfl) (by kernel_rfl) (fun _ _ _ h => h) (Or.inl ⟨by rfl, ?_⟩) hHeld2 ?_
        · intro w' hSw; (try dsimp only at hSw); go_simp
        simp only [Act.put, List.getElem_toArray, List.getElem_cons_zero, List.getElem_cons_succ, List.setIfInBounds_toArray, List.set_cons_zero, List.set_cons_succ]
        refine wpAnyH_take (i := 12) (v := .bool false) rfl (by kernel_rfl) (by kernel_rfl) (by kernel_rfl) (fun _ _ _ h => h) (Or.inl ⟨by rfl, ?_⟩) hHeld2 ?_
        · intro w' hSw; (try dsimp only at hSw); go_simp
        simp only [Act.put, List.getElem_toArray, List.getElem_cons_zero, List.getElem_cons_succ, List.setIfInBounds_toArray, List.set_cons_zero, List.set_cons_succ]
        refine wpAnyH_done (by kernel_rfl) ?_ _
        go_wp2
        go_ret
        exact ⟨ret_bool (by rw [HF.out]; simp [h1]), hB5.2.2.2.1⟩
end Go.Proofs.Ytfbkjopidjojeab
