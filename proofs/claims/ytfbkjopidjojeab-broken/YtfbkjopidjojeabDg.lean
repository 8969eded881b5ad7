/-
  Walks over package plan: clockOf, the rest.
-/
import Derived.Test.YtfbkjopidjojeabDf
namespace Go.Proofs.Ytfbkjopidjojeab
open Go.RowKit

/-- What clockOf keeps. -/
def Bun (w W : World) (s : St) (up : Option Addr) (uc : Nat) (x0 : Nat) (c0 : Wd) (x1 : Nat) (c1 : Wd) : Prop :=
  StB W w.heap.size s (.slice up s.uses.length uc) ∧ Boxed W (w.heap.size + 1) ⟨#[]⟩ ⟨#[]⟩ ∧ Boxed W x0 (bs c0.1) (bs c0.2) ∧ Boxed W x1 (bs c1.1) (bs c1.2) ∧ Below w.heap.size w W ∧ w.heap.size + 1 < W.heap.size ∧ x0 < W.heap.size ∧ x1 < W.heap.size
theorem Bun.below {w W W' : World} {s : St} {up : Option Addr} {uc x0 x1 : Nat} {c0 c1 : Wd} (h : Bun w W s up uc x0 c0 x1 c1) (hb : Below W.heap.size W W') : Bun w W' s up uc x0 c0 x1 c1 := by
  obtain ⟨h1, h2, h3, h4, h5, h6, h7, h8⟩ := h
  have hz := hb.size
  exact ⟨h1.below hb (by omega), h2.below hb (by omega), h3.below hb h7, h4.below hb h8, h5.trans (hb.mono (by omega)), by omega, by omega, by omega⟩
theorem Bun.mk2 {w w1 w2 : World} {s : St} {up : Option Addr} {uc : Nat} {c0 c1 : Wd} (h0 : Below w.heap.size w w1) (h1 : StB w1 w.heap.size s (.slice up s.uses.length uc)) (h2 : Boxed w1 (w.heap.size + 1) ⟨#[]⟩ ⟨#[]⟩) (hz : w.heap.size + 1 < w1.heap.size)
    (hb : Below (w1.alloc (Obj.cells #[.string (bs c0.1), .string (bs c0.2)] 74)).heap.size (w1.alloc (Obj.cells #[.string (bs c0.1), .string (bs c0.2)] 74)) w2) :
    Bun w (w2.alloc (Obj.cells #[.string (bs c1.1), .string (bs c1.2)] 74)) s up uc w1.heap.size c0 w2.heap.size c1 := by
  have hz1 := hb.size
  simp at hz1
  have hA1 : Below w1.heap.size w1 (w1.alloc (Obj.cells #[.string (bs c0.1), .string (bs c0.2)] 74)) := (Below.refl _ _).alloc (Nat.le_refl _) _
  have hA2 : Below w2.heap.size w2 (w2.alloc (Obj.cells #[.string (bs c1.1), .string (bs c1.2)] 74)) := (Below.refl _ _).alloc (Nat.le_refl _) _
  have hB : Below w1.heap.size w1 (w2.alloc (Obj.cells #[.string (bs c1.1), .string (bs c1.2)] 74)) := (hA1.trans (hb.mono (by simp))).trans (hA2.mono (by omega))
  refine ⟨h1.below hB (by omega), h2.below hB hz, ?_, Boxed.new w2 _ _ _ _ rfl, h0.trans (hB.mono (by omega)), by simp; omega, by simp; omega, by simp⟩
  exact ((Boxed.new w1 _ (bs c0.1) (bs c0.2) _ rfl).below hb (by simp)).below hA2 (by omega)

set_option maxRecDepth 50000 in
set_option maxHeartbeats 2000000 in
theorem clockOf_when (qs : List (St × Value)) (p : Option Addr) (cap : Nat) (s : St) (up : Option Addr) (uc : Nat) (w : World) (hr : RS w p qs)
    (hu : Reads w (.slice up s.uses.length uc) 1 s.uses.length (ints s.uses)) (hux : ∀ x ∈ s.uses, x < qs.length) (hk : s.kind ≤ 13) (hev : isEv s.kind = false) (hok : CkOk 1048576 (qs.map Prod.fst)) (h10 : s.kind = 10) (hw : Wok 1048576 s.wd) :
    Calls Try.prog 65 #[.slice p qs.length cap, .agg #[.int .i64 s.no, .int .i64 s.kind, .string (S s.name), .slice up s.uses.length uc, .int .i64 s.num, .string (bs s.wd.1), .string (bs s.wd.2), .string (bs s.ck.1), .string (bs s.ck.2)]] w
      fun e w' => (CkIs (ckOf (qs.map Prod.fst) s) e ∧ Hid ((ckOf (qs.map Prod.fst) s).1.length ≤ 2199023255552 ∧ (ckOf (qs.map Prod.fst) s).2.length ≤ 2199023255552)) ∧ Below w.heap.size w w' := by
  have h10' : Hid (s.kind = 10) := h10
  clear h10
  obtain ⟨c0, hc0⟩ : ∃ c, ucL (qs.map Prod.fst) s 0 = c := ⟨_, rfl⟩
  obtain ⟨c1, hc1⟩ : ∃ c, ucL (qs.map Prod.fst) s 1 = c := ⟨_, rfl⟩
  have hS := Z2_s w s up uc
  have hR := Z2_r w s up uc
  have b0 := hS.c 0
  have b1 := hS.c 1
  have b2 := hS.c 2
  have b3 := hS.c 3
  have b4 := hS.c 4
  have b5 := hS.c 5
  have b6 := hS.c 6
  have b7 := hS.c 7
  have b8 := hS.c 8
  simp only [stCells, List.getElem?_cons_zero, List.getElem?_cons_succ] at b0 b1 b2 b3 b4 b5 b6 b7 b8
  have hbw := Z2_below w s up uc
  have hcall0 := usedClock_any qs p cap s up uc 0 (Z2 w s up uc) (by omega) (hr.below hbw (Nat.le_refl _)) (hu.below hbw (Nat.le_refl _)) hux
  rw [hc0] at hcall0
  have HC0 : Hid (ucL (qs.map Prod.fst) s 0 = c0) := hc0
  go_enter Try.func65, Try.ntmps65
  go_wp2_with (go_at_call 78; refine (isEven_any s.kind _ (by omega)).mono ?_; rintro e w1 ⟨hE, hw1⟩; subst hE; subst w1)
  refine hcall0.mono ?_
  rintro e w1 ⟨hK, hb1⟩
  unfold CkIs at hK
  subst hK
  have hzz := hb1.size
  rw [Z2_size] at hzz
  have hbw1 : Below w.heap.size w w1 := hbw.trans (hb1.mono (by rw [Z2_size]; omega))
  have hA1 : Below w1.heap.size w1 (w1.alloc (Obj.cells #[.string (bs c0.1), .string (bs c0.2)] 74)) := (Below.refl _ _).alloc (Nat.le_refl _) _
  have hbwA : Below w.heap.size w (w1.alloc (Obj.cells #[.string (bs c0.1), .string (bs c0.2)] 74)) := hbw1.trans (hA1.mono (by omega))
  have hS1 := (hS.below hb1 (by rw [Z2_size]; omega))
  have hcall1 := usedClock_any qs p cap s up uc 1 (w1.alloc (Obj.cells #[.string (bs c0.1), .string (bs c0.2)] 74)) (by omega) (hr.below hbwA (Nat.le_refl _)) (hu.below hbwA (Nat.le_refl _)) hux
  rw [hc1] at hcall1
  clear b0 b1 b2 b3 b4 b5 b6 b7 b8 hcall0 hr hu hc0 hc1
  have b0 := hS1.c 0
  have b1 := hS1.c 1
  have b2 := hS1.c 2
  have b3 := hS1.c 3
  have b4 := hS1.c 4
  have b5 := hS1.c 5
  have b6 := hS1.c 6
  have b7 := hS1.c 7
  have b8 := hS1.c 8
  simp only [stCells, List.getElem?_cons_zero, List.getElem?_cons_succ] at b0 b1 b2 b3 b4 b5 b6 b7 b8
  have hltw : w.heap.size < w1.heap.size := by omega
  have hne1 : w1.heap.size ≠ w.heap.size := by omega
  go_wp2_with fail
  refine hcall1.mono ?_
  rintro e w2 ⟨hK, hb2⟩
  unfold CkIs at hK
  subst hK
  have hB := Bun.mk2 (s := s) (up := up) (uc := uc) (c0 := c0) (c1 := c1) hbw1 hS1 (hR.below hb1 (by rw [Z2_size]; omega)) (by omega) hb2
  have hRw2 : Boxed w2 (w.heap.size + 1) ⟨#[]⟩ ⟨#[]⟩ := ((hR.below hb1 (by rw [Z2_size]; omega)).below hA1 (by omega)).below hb2 (by simp; omega)
  have hSw2 : StB w2 w.heap.size s (.slice up s.uses.length uc) := (hS1.below hA1 (by omega)).below hb2 (by simp; omega)
  have hbw2 : Below w.heap.size w w2 := hbwA.trans (hb2.mono (by simp; omega))
  clear hcall1 hS1 b0 b1 b2 b3 b4 b5 b6 b7 b8 hS hR
  have hBB : Hid (Bun w (w2.alloc (Obj.cells #[.string (bs c1.1), .string (bs c1.2)] 74)) s up uc w1.heap.size c0 w2.heap.size c1) := hB
  have hltw2 : w1.heap.size < w2.heap.size := by have := hb2.size; simp at this; omega
  have hltw3 : w.heap.size < w2.heap.size := by omega
  have hltw4 : w.heap.size + 1 < w2.heap.size := by omega
  have hZZ := hb2.size
  have hkk : (s.kind : Int) = 10 := by have := h10'.out; omega
  clear hRw2 hSw2 hbw2
  obtain ⟨hS3, ⟨r0, r1, g0, g1⟩, ⟨x0, x1, _, _⟩, ⟨y0, y1, _, _⟩, hbz, hz0, hz1, hz2⟩ := hBB.out
  have b0 := hS3.c 0
  have b1 := hS3.c 1
  have b2 := hS3.c 2
  have b3 := hS3.c 3
  have b4 := hS3.c 4
  have b5 := hS3.c 5
  have b6 := hS3.c 6
  have b7 := hS3.c 7
  have b8 := hS3.c 8
  simp only [stCells, List.getElem?_cons_zero, List.getElem?_cons_succ] at b0 b1 b2 b3 b4 b5 b6 b7 b8
  cases hh : c0.2.isEmpty with
  | false =>
    have hhc : hasC (ucL (qs.map Prod.fst) s 0) = true := by rw [HC0.out]; simp [hasC, hh]
    have HK : Hid (ckOf (qs.map Prod.fst) s = onW c0 s.wd) := by
      show ckOf _ _ = _
      unfold ckOf
      rw [hev, hhc, h10'.out, HC0.out]; rfl
    have hw0 : Wok 1048576 c0 := by rw [← HC0.out]; exact ucL_wok hok s 0 hhc
    clear hhc
    go_wp2_with (first
      | (go_at_call 64; refine (None_any _ _ _).mono ?_; rintro e w3 ⟨hK, hb3⟩; subst hK; have hB3 := hBB.out.below hb3; have hBx3 := hB3; obtain ⟨hS4, ⟨r0', r1', g0', g1'⟩, ⟨x0', x1', _, _⟩, ⟨y0', y1', _, _⟩, hbz', hz0', hz1', hz2'⟩ := hBx3; have bb0 := hS4.c 0; have bb1 := hS4.c 1; have bb2 := hS4.c 2; have bb3 := hS4.c 3; have bb4 := hS4.c 4; have bb5 := hS4.c 5; have bb6 := hS4.c 6; have bb7 := hS4.c 7; have bb8 := hS4.c 8; simp only [stCells, List.getElem?_cons_zero, List.getElem?_cons_succ] at bb0 bb1 bb2 bb3 bb4 bb5 bb6 bb7 bb8))
    refine (On_m c0 s.wd w3 hw0 hw).mono ?_
    rintro e w4 ⟨⟨hK, HWk⟩, hb4⟩
    unfold CkIs at hK
    subst hK
    have hB4 := hB3.below hb4
    obtain ⟨_, ⟨r0, r1, g0, g1⟩, _, _, hbz, _, _, _⟩ := hB4
    go_wp2
    have hst := Boxed.store ⟨r0, r1, g0, g1⟩ (bs (onW c0 s.wd).1) (bs (onW c0 s.wd).2)
    have q0 := hst.c0
    have q1 := hst.c1
    refine bodyPost_ret (v := .agg #[.string (bs (onW c0 s.wd).1), .string (bs (onW c0 s.wd).2)]) (by simp [results, Try.results65, go_sem, q0, q1]) rfl ⟨?_, ?_⟩
    · exact ⟨by unfold CkIs; rw [HK.out], by show _ ∧ _; rw [HK.out]; exact HWk.out.2⟩
    · exact (hbz.setCell (by show w.heap.size ≤ w.heap.size + 1; omega) _).setCell (by show w.heap.size ≤ w.heap.size + 1; omega) _
  | true =>
    have hhc : hasC (ucL (qs.map Prod.fst) s 0) = false := by rw [HC0.out]; simp [hasC, hh]
    have HK : Hid (ckOf (qs.map Prod.fst) s = ([], [])) := by
      show ckOf _ _ = _
      unfold ckOf
      rw [hev, hhc, h10'.out]; rfl
    clear hhc
    go_wp2_with (first
      | (go_at_call 64; refine (None_any _ _ _).mono ?_; rintro e w3 ⟨hK, hb3⟩; subst hK; have hB3 := hBB.out.below hb3; have hBx3 := hB3; obtain ⟨hS4, ⟨r0', r1', g0', g1'⟩, ⟨x0', x1', _, _⟩, ⟨y0', y1', _, _⟩, hbz', hz0', hz1', hz2'⟩ := hBx3; have bb0 := hS4.c 0; have bb1 := hS4.c 1; have bb2 := hS4.c 2; have bb3 := hS4.c 3; have bb4 := hS4.c 4; have bb5 := hS4.c 5; have bb6 := hS4.c 6; have bb7 := hS4.c 7; have bb8 := hS4.c 8; simp only [stCells, List.getElem?_cons_zero, List.getElem?_cons_succ] at bb0 bb1 bb2 bb3 bb4 bb5 bb6 bb7 bb8))
    clear r0 r1 g0 g1 hbz
    obtain ⟨_, ⟨r0, r1, g0, g1⟩, _, _, hbz, _, _, _⟩ := hB3
    have hst := Boxed.store ⟨r0, r1, g0, g1⟩ ⟨#[]⟩ ⟨#[]⟩
    have q0 := hst.c0
    have q1 := hst.c1
    refine bodyPost_ret (v := .agg #[.string ⟨#[]⟩, .string ⟨#[]⟩]) (by simp [results, Try.results65, go_sem, q0, q1]) rfl ⟨?_, ?_⟩
    · exact ⟨by unfold CkIs; rw [HK.out]; rfl, by show _ ∧ _; rw [HK.out]; exact ⟨Nat.zero_le _, Nat.zero_le _⟩⟩
    · exact (hbz.setCell (by show w.heap.size ≤ w.heap.size + 1; omega) _).setCell (by show w.heap.size ≤ w.heap.size + 1; omega) _

set_option maxRecDepth 50000 in
set_option maxHeartbeats 2000000 in
theorem clockOf_merge (qs : List (St × Value)) (p : Option Addr) (cap : Nat) (s : St) (up : Option Addr) (uc : Nat) (w : World) (hr : RS w p qs)
    (hu : Reads w (.slice up s.uses.length uc) 1 s.uses.length (ints s.uses)) (hux : ∀ x ∈ s.uses, x < qs.length) (hk : s.kind ≤ 13) (hev : isEv s.kind = false) (hok : CkOk 1048576 (qs.map Prod.fst)) (h11 : s.kind = 11) :
    Calls Try.prog 65 #[.slice p qs.length cap, .agg #[.int .i64 s.no, .int .i64 s.kind, .string (S s.name), .slice up s.uses.length uc, .int .i64 s.num, .string (bs s.wd.1), .string (bs s.wd.2), .string (bs s.ck.1), .string (bs s.ck.2)]] w
      fun e w' => (CkIs (ckOf (qs.map Prod.fst) s) e ∧ Hid ((ckOf (qs.map Prod.fst) s).1.length ≤ 2199023255552 ∧ (ckOf (qs.map Prod.fst) s).2.length ≤ 2199023255552)) ∧ Below w.heap.size w w' := by
  have h11' : Hid (s.kind = 11) := h11
  clear h11
  obtain ⟨c0, hc0⟩ : ∃ c, ucL (qs.map Prod.fst) s 0 = c := ⟨_, rfl⟩
  obtain ⟨c1, hc1⟩ : ∃ c, ucL (qs.map Prod.fst) s 1 = c := ⟨_, rfl⟩
  have hS := Z2_s w s up uc
  have hR := Z2_r w s up uc
  have b0 := hS.c 0
  have b1 := hS.c 1
  have b2 := hS.c 2
  have b3 := hS.c 3
  have b4 := hS.c 4
  have b5 := hS.c 5
  have b6 := hS.c 6
  have b7 := hS.c 7
  have b8 := hS.c 8
  simp only [stCells, List.getElem?_cons_zero, List.getElem?_cons_succ] at b0 b1 b2 b3 b4 b5 b6 b7 b8
  have hbw := Z2_below w s up uc
  have hcall0 := usedClock_any qs p cap s up uc 0 (Z2 w s up uc) (by omega) (hr.below hbw (Nat.le_refl _)) (hu.below hbw (Nat.le_refl _)) hux
  rw [hc0] at hcall0
  have HC0 : Hid (ucL (qs.map Prod.fst) s 0 = c0) := hc0
  have HC1 : Hid (ucL (qs.map Prod.fst) s 1 = c1) := hc1
  go_enter Try.func65, Try.ntmps65
  go_wp2_with (go_at_call 78; refine (isEven_any s.kind _ (by omega)).mono ?_; rintro e w1 ⟨hE, hw1⟩; subst hE; subst w1)
  refine hcall0.mono ?_
  rintro e w1 ⟨hK, hb1⟩
  unfold CkIs at hK
  subst hK
  have hzz := hb1.size
  rw [Z2_size] at hzz
  have hbw1 : Below w.heap.size w w1 := hbw.trans (hb1.mono (by rw [Z2_size]; omega))
  have hA1 : Below w1.heap.size w1 (w1.alloc (Obj.cells #[.string (bs c0.1), .string (bs c0.2)] 74)) := (Below.refl _ _).alloc (Nat.le_refl _) _
  have hbwA : Below w.heap.size w (w1.alloc (Obj.cells #[.string (bs c0.1), .string (bs c0.2)] 74)) := hbw1.trans (hA1.mono (by omega))
  have hS1 := (hS.below hb1 (by rw [Z2_size]; omega))
  have hcall1 := usedClock_any qs p cap s up uc 1 (w1.alloc (Obj.cells #[.string (bs c0.1), .string (bs c0.2)] 74)) (by omega) (hr.below hbwA (Nat.le_refl _)) (hu.below hbwA (Nat.le_refl _)) hux
  rw [hc1] at hcall1
  clear b0 b1 b2 b3 b4 b5 b6 b7 b8 hcall0 hr hu hc0 hc1
  have b0 := hS1.c 0
  have b1 := hS1.c 1
  have b2 := hS1.c 2
  have b3 := hS1.c 3
  have b4 := hS1.c 4
  have b5 := hS1.c 5
  have b6 := hS1.c 6
  have b7 := hS1.c 7
  have b8 := hS1.c 8
  simp only [stCells, List.getElem?_cons_zero, List.getElem?_cons_succ] at b0 b1 b2 b3 b4 b5 b6 b7 b8
  have hltw : w.heap.size < w1.heap.size := by omega
  have hne1 : w1.heap.size ≠ w.heap.size := by omega
  go_wp2_with fail
  refine hcall1.mono ?_
  rintro e w2 ⟨hK, hb2⟩
  unfold CkIs at hK
  subst hK
  have hB := Bun.mk2 (s := s) (up := up) (uc := uc) (c0 := c0) (c1 := c1) hbw1 hS1 (hR.below hb1 (by rw [Z2_size]; omega)) (by omega) hb2
  have hRw2 : Boxed w2 (w.heap.size + 1) ⟨#[]⟩ ⟨#[]⟩ := ((hR.below hb1 (by rw [Z2_size]; omega)).below hA1 (by omega)).below hb2 (by simp; omega)
  have hSw2 : StB w2 w.heap.size s (.slice up s.uses.length uc) := (hS1.below hA1 (by omega)).below hb2 (by simp; omega)
  have hbw2 : Below w.heap.size w w2 := hbwA.trans (hb2.mono (by simp; omega))
  clear hcall1 hS1 b0 b1 b2 b3 b4 b5 b6 b7 b8 hS hR
  have hBB : Hid (Bun w (w2.alloc (Obj.cells #[.string (bs c1.1), .string (bs c1.2)] 74)) s up uc w1.heap.size c0 w2.heap.size c1) := hB
  have hltw2 : w1.heap.size < w2.heap.size := by have := hb2.size; simp at this; omega
  have hltw3 : w.heap.size < w2.heap.size := by omega
  have hltw4 : w.heap.size + 1 < w2.heap.size := by omega
  have hZZ := hb2.size
  have hkk : (s.kind : Int) = 11 := by have := h11'.out; omega
  clear hRw2 hSw2 hbw2
  obtain ⟨hS3, ⟨r0, r1, g0, g1⟩, ⟨x0, x1, _, _⟩, ⟨y0, y1, _, _⟩, hbz, hz0, hz1, hz2⟩ := hBB.out
  have b0 := hS3.c 0
  have b1 := hS3.c 1
  have b2 := hS3.c 2
  have b3 := hS3.c 3
  have b4 := hS3.c 4
  have b5 := hS3.c 5
  have b6 := hS3.c 6
  have b7 := hS3.c 7
  have b8 := hS3.c 8
  simp only [stCells, List.getElem?_cons_zero, List.getElem?_cons_succ] at b0 b1 b2 b3 b4 b5 b6 b7 b8
  cases hh : c0.2.isEmpty with
  | true =>
    have hhc : hasC (ucL (qs.map Prod.fst) s 0) = false := by rw [HC0.out]; simp [hasC, hh]
    have HK : Hid (ckOf (qs.map Prod.fst) s = ([], [])) := by
      show ckOf _ _ = _
      unfold ckOf
      rw [hev, hhc, h11'.out]; rfl
    clear hhc
    go_wp2_with (first
      | (go_at_call 64; refine (None_any _ _ _).mono ?_; rintro e w3 ⟨hK, hb3⟩; subst hK; have hB3 := hBB.out.below hb3; have hBx3 := hB3; obtain ⟨hS4, ⟨r0', r1', g0', g1'⟩, ⟨x0', x1', _, _⟩, ⟨y0', y1', _, _⟩, hbz', hz0', hz1', hz2'⟩ := hBx3; have bb0 := hS4.c 0; have bb1 := hS4.c 1; have bb2 := hS4.c 2; have bb3 := hS4.c 3; have bb4 := hS4.c 4; have bb5 := hS4.c 5; have bb6 := hS4.c 6; have bb7 := hS4.c 7; have bb8 := hS4.c 8; simp only [stCells, List.getElem?_cons_zero, List.getElem?_cons_succ] at bb0 bb1 bb2 bb3 bb4 bb5 bb6 bb7 bb8))
    clear r0 r1 g0 g1 hbz
    obtain ⟨_, ⟨r0, r1, g0, g1⟩, _, _, hbz, _, _, _⟩ := hB3
    have hst := Boxed.store ⟨r0, r1, g0, g1⟩ ⟨#[]⟩ ⟨#[]⟩
    have q0 := hst.c0
    have q1 := hst.c1
    refine bodyPost_ret (v := .agg #[.string ⟨#[]⟩, .string ⟨#[]⟩]) (by simp [results, Try.results65, go_sem, q0, q1]) rfl ⟨?_, ?_⟩
    · exact ⟨by unfold CkIs; rw [HK.out]; rfl, by show _ ∧ _; rw [HK.out]; exact ⟨Nat.zero_le _, Nat.zero_le _⟩⟩
    · exact (hbz.setCell (by show w.heap.size ≤ w.heap.size + 1; omega) _).setCell (by show w.heap.size ≤ w.heap.size + 1; omega) _
  | false =>
    have hhc : hasC (ucL (qs.map Prod.fst) s 0) = true := by rw [HC0.out]; simp [hasC, hh]
    have hw0 : Wok 1048576 c0 := by rw [← HC0.out]; exact ucL_wok hok s 0 hhc
    go_wp2_with (first
      | (go_at_call_of 64 c0.2; refine (None_any c0.1 c0.2 _).mono ?_; rintro e w3 ⟨hK, hb3⟩; subst hK; have hB3 := hBB.out.below hb3; have hBx3 := hB3; obtain ⟨hS4, ⟨r0', r1', g0', g1'⟩, ⟨x0', x1', _, _⟩, ⟨y0', y1', _, _⟩, hbz', hz0', hz1', hz2'⟩ := hBx3; have bb0 := hS4.c 0; have bb1 := hS4.c 1; have bb2 := hS4.c 2; have bb3 := hS4.c 3; have bb4 := hS4.c 4; have bb5 := hS4.c 5; have bb6 := hS4.c 6; have bb7 := hS4.c 7; have bb8 := hS4.c 8; simp only [stCells, List.getElem?_cons_zero, List.getElem?_cons_succ] at bb0 bb1 bb2 bb3 bb4 bb5 bb6 bb7 bb8))
    clear r0 r1 g0 g1 hbz r0' r1' g0' g1' hbz'
    refine (None_any c1.1 c1.2 w3).mono ?_
    rintro e w4 ⟨hK, hb4⟩
    subst hK
    have hB4 := hB3.below hb4
    have hBx4 := hB4
    obtain ⟨hS5, ⟨r0, r1, g0, g1⟩, ⟨x0'', x1'', _, _⟩, ⟨y0'', y1'', _, _⟩, hbz, hz0'', hz1'', hz2''⟩ := hBx4
    cases hh1 : c1.2.isEmpty with
    | true =>
      have hhc1 : hasC (ucL (qs.map Prod.fst) s 1) = false := by rw [HC1.out]; simp [hasC, hh1]
      have HK : Hid (ckOf (qs.map Prod.fst) s = ([], [])) := by
        show ckOf _ _ = _
        unfold ckOf
        rw [hev, hhc, hhc1, h11'.out]; rfl
      clear hhc hhc1
      go_wp2
      have hst := Boxed.store ⟨r0, r1, g0, g1⟩ ⟨#[]⟩ ⟨#[]⟩
      have q0 := hst.c0
      have q1 := hst.c1
      refine bodyPost_ret (v := .agg #[.string ⟨#[]⟩, .string ⟨#[]⟩]) (by simp [results, Try.results65, go_sem, q0, q1]) rfl ⟨?_, ?_⟩
      · exact ⟨by unfold CkIs; rw [HK.out]; rfl, by show _ ∧ _; rw [HK.out]; exact ⟨Nat.zero_le _, Nat.zero_le _⟩⟩
      · exact (hbz.setCell (by show w.heap.size ≤ w.heap.size + 1; omega) _).setCell (by show w.heap.size ≤ w.heap.size + 1; omega) _
    | false =>
      have hhc1 : hasC (ucL (qs.map Prod.fst) s 1) = true := by rw [HC1.out]; simp [hasC, hh1]
      have hw1 : Wok 1048576 c1 := by rw [← HC1.out]; exact ucL_wok hok s 1 hhc1
      have HK : Hid (ckOf (qs.map Prod.fst) s = orW c0 c1) := by
        show ckOf _ _ = _
        unfold ckOf
        rw [hev, hhc, hhc1, h11'.out, HC0.out, HC1.out]; rfl
      clear hhc hhc1
      go_wp2_with fail
      refine (Either_m c0 c1 w4 hw0 hw1).mono ?_
      rintro e w5 ⟨⟨hK, HWk⟩, hb5⟩
      unfold CkIs at hK
      subst hK
      have hB5 := hB4.below hb5
      clear r0 r1 g0 g1 hbz
      obtain ⟨_, ⟨r0, r1, g0, g1⟩, _, _, hbz, _, _, _⟩ := hB5
      go_wp2
      have hst := Boxed.store ⟨r0, r1, g0, g1⟩ (bs (orW c0 c1).1) (bs (orW c0 c1).2)
      have q0 := hst.c0
      have q1 := hst.c1
      refine bodyPost_ret (v := .agg #[.string (bs (orW c0 c1).1), .string (bs (orW c0 c1).2)]) (by simp [results, Try.results65, go_sem, q0, q1]) rfl ⟨?_, ?_⟩
      · exact ⟨by unfold CkIs; rw [HK.out], by show _ ∧ _; rw [HK.out]; exact HWk.out.2⟩
      · exact (hbz.setCell (by show w.heap.size ≤ w.heap.size + 1; omega) _).setCell (by show w.heap.size ≤ w.heap.size + 1; omega) _

set_option maxRecDepth 50000 in
set_option maxHeartbeats 2000000 in
theorem clockOf_other (qs : List (St × Value)) (p : Option Addr) (cap : Nat) (s : St) (up : Option Addr) (uc : Nat) (w : World) (hr : RS w p qs)
    (hu : Reads w (.slice up s.uses.length uc) 1 s.uses.length (ints s.uses)) (hux : ∀ x ∈ s.uses, x < qs.length) (hk : s.kind ≤ 13) (hev : isEv s.kind = false) (_hok : CkOk 1048576 (qs.map Prod.fst)) (h10 : s.kind ≠ 10) (h11 : s.kind ≠ 11) :
    Calls Try.prog 65 #[.slice p qs.length cap, .agg #[.int .i64 s.no, .int .i64 s.kind, .string (S s.name), .slice up s.uses.length uc, .int .i64 s.num, .string (bs s.wd.1), .string (bs s.wd.2), .string (bs s.ck.1), .string (bs s.ck.2)]] w
      fun e w' => (CkIs (ckOf (qs.map Prod.fst) s) e ∧ Hid ((ckOf (qs.map Prod.fst) s).1.length ≤ 2199023255552 ∧ (ckOf (qs.map Prod.fst) s).2.length ≤ 2199023255552)) ∧ Below w.heap.size w w' := by
  have HK : Hid (ckOf (qs.map Prod.fst) s = ([], [])) := by
    show ckOf _ _ = _
    unfold ckOf
    rw [hev, beq_eq_false_iff_ne.2 h10, beq_eq_false_iff_ne.2 h11]; rfl
  have hk1 : ¬ (s.kind : Int) = 10 := by omega
  have hk2 : ¬ (s.kind : Int) = 11 := by omega
  obtain ⟨c0, hc0⟩ : ∃ c, ucL (qs.map Prod.fst) s 0 = c := ⟨_, rfl⟩
  obtain ⟨c1, hc1⟩ : ∃ c, ucL (qs.map Prod.fst) s 1 = c := ⟨_, rfl⟩
  have hS := Z2_s w s up uc
  have hR := Z2_r w s up uc
  have b0 := hS.c 0
  have b1 := hS.c 1
  have b2 := hS.c 2
  have b3 := hS.c 3
  have b4 := hS.c 4
  have b5 := hS.c 5
  have b6 := hS.c 6
  have b7 := hS.c 7
  have b8 := hS.c 8
  simp only [stCells, List.getElem?_cons_zero, List.getElem?_cons_succ] at b0 b1 b2 b3 b4 b5 b6 b7 b8
  have hbw := Z2_below w s up uc
  have hcall0 := usedClock_any qs p cap s up uc 0 (Z2 w s up uc) (by omega) (hr.below hbw (Nat.le_refl _)) (hu.below hbw (Nat.le_refl _)) hux
  rw [hc0] at hcall0
  go_enter Try.func65, Try.ntmps65
  go_wp2_with (go_at_call 78; refine (isEven_any s.kind _ (by omega)).mono ?_; rintro e w1 ⟨hE, hw1⟩; subst hE; subst w1)
  refine hcall0.mono ?_
  rintro e w1 ⟨hK, hb1⟩
  unfold CkIs at hK
  subst hK
  have hzz := hb1.size
  rw [Z2_size] at hzz
  have hbw1 : Below w.heap.size w w1 := hbw.trans (hb1.mono (by rw [Z2_size]; omega))
  have hA1 : Below w1.heap.size w1 (w1.alloc (Obj.cells #[.string (bs c0.1), .string (bs c0.2)] 74)) := (Below.refl _ _).alloc (Nat.le_refl _) _
  have hbwA : Below w.heap.size w (w1.alloc (Obj.cells #[.string (bs c0.1), .string (bs c0.2)] 74)) := hbw1.trans (hA1.mono (by omega))
  have hS1 := (hS.below hb1 (by rw [Z2_size]; omega))
  have hcall1 := usedClock_any qs p cap s up uc 1 (w1.alloc (Obj.cells #[.string (bs c0.1), .string (bs c0.2)] 74)) (by omega) (hr.below hbwA (Nat.le_refl _)) (hu.below hbwA (Nat.le_refl _)) hux
  rw [hc1] at hcall1
  clear b0 b1 b2 b3 b4 b5 b6 b7 b8 hcall0 hr hu hc0 hc1
  have b0 := hS1.c 0
  have b1 := hS1.c 1
  have b2 := hS1.c 2
  have b3 := hS1.c 3
  have b4 := hS1.c 4
  have b5 := hS1.c 5
  have b6 := hS1.c 6
  have b7 := hS1.c 7
  have b8 := hS1.c 8
  simp only [stCells, List.getElem?_cons_zero, List.getElem?_cons_succ] at b0 b1 b2 b3 b4 b5 b6 b7 b8
  have hltw : w.heap.size < w1.heap.size := by omega
  have hne1 : w1.heap.size ≠ w.heap.size := by omega
  go_wp2_with fail
  refine hcall1.mono ?_
  rintro e w2 ⟨hK, hb2⟩
  unfold CkIs at hK
  subst hK
  have hB := Bun.mk2 (s := s) (up := up) (uc := uc) (c0 := c0) (c1 := c1) hbw1 hS1 (hR.below hb1 (by rw [Z2_size]; omega)) (by omega) hb2
  have hRw2 : Boxed w2 (w.heap.size + 1) ⟨#[]⟩ ⟨#[]⟩ := ((hR.below hb1 (by rw [Z2_size]; omega)).below hA1 (by omega)).below hb2 (by simp; omega)
  have hSw2 : StB w2 w.heap.size s (.slice up s.uses.length uc) := (hS1.below hA1 (by omega)).below hb2 (by simp; omega)
  have hbw2 : Below w.heap.size w w2 := hbwA.trans (hb2.mono (by simp; omega))
  clear hcall1 hS1 b0 b1 b2 b3 b4 b5 b6 b7 b8 hS hR
  have hBB : Hid (Bun w (w2.alloc (Obj.cells #[.string (bs c1.1), .string (bs c1.2)] 74)) s up uc w1.heap.size c0 w2.heap.size c1) := hB
  have hltw2 : w1.heap.size < w2.heap.size := by have := hb2.size; simp at this; omega
  have hltw3 : w.heap.size < w2.heap.size := by omega
  have hltw4 : w.heap.size + 1 < w2.heap.size := by omega
  have hZZ := hb2.size
  obtain ⟨r0, r1, g0, g1⟩ := hRw2
  have b0 := hSw2.c 0
  have b1 := hSw2.c 1
  have b2 := hSw2.c 2
  have b3 := hSw2.c 3
  have b4 := hSw2.c 4
  have b5 := hSw2.c 5
  have b6 := hSw2.c 6
  have b7 := hSw2.c 7
  have b8 := hSw2.c 8
  simp only [stCells, List.getElem?_cons_zero, List.getElem?_cons_succ] at b0 b1 b2 b3 b4 b5 b6 b7 b8
  clear hBB hB
  go_wp2
  have hst := (Boxed.store ⟨r0, r1, g0, g1⟩ ⟨#[]⟩ ⟨#[]⟩).alloc (Obj.cells #[.string (bs c1.1), .string (bs c1.2)] 74)
  have q0 := hst.c0
  have q1 := hst.c1
  refine bodyPost_ret (v := .agg #[.string ⟨#[]⟩, .string ⟨#[]⟩]) (by simp [results, Try.results65, go_sem, q0, q1]) rfl ⟨?_, ?_⟩
  · exact ⟨by unfold CkIs; rw [HK.out]; rfl, by show _ ∧ _; rw [HK.out]; exact ⟨Nat.zero_le _, Nat.zero_le _⟩⟩
  · exact ((hbw2.setCell (by show w.heap.size ≤ w.heap.size + 1; omega) _).setCell (by show w.heap.size ≤ w.heap.size + 1; omega) _).alloc (by simp [World.setCell]; omega) _

theorem clockOf_any (qs : List (St × Value)) (p : Option Addr) (cap : Nat) (s : St) (up : Option Addr) (uc : Nat) (w : World) (hr : RS w p qs)
    (hu : Reads w (.slice up s.uses.length uc) 1 s.uses.length (ints s.uses)) (hul : s.uses.length ≤ 1048575) (hux : ∀ x ∈ s.uses, x < qs.length) (hk : s.kind ≤ 13) (hok : CkOk 1048576 (qs.map Prod.fst)) (hw : s.kind = 10 → Wok 1048576 s.wd) :
    Calls Try.prog 65 #[.slice p qs.length cap, .agg #[.int .i64 s.no, .int .i64 s.kind, .string (S s.name), .slice up s.uses.length uc, .int .i64 s.num, .string (bs s.wd.1), .string (bs s.wd.2), .string (bs s.ck.1), .string (bs s.ck.2)]] w
      fun e w' => (CkIs (ckOf (qs.map Prod.fst) s) e ∧ Hid ((ckOf (qs.map Prod.fst) s).1.length ≤ 2199023255552 ∧ (ckOf (qs.map Prod.fst) s).2.length ≤ 2199023255552)) ∧ Below w.heap.size w w' := by
  cases hev : isEv s.kind with
  | true =>
    refine (clockOf_even qs p cap s up uc w hr hu hul hux hk hev).mono ?_
    rintro e w' ⟨h1, h2⟩
    refine ⟨⟨h1, ?_⟩, h2⟩
    show _ ∧ _
    have : ckOf (qs.map Prod.fst) s = fcL (qs.map Prod.fst) s := by unfold ckOf; rw [if_pos hev]
    rw [this]
    have := fcL_ok hok s
    exact ⟨by omega, by omega⟩
  | false =>
    by_cases h10 : s.kind = 10
    · exact clockOf_when qs p cap s up uc w hr hu hux hk hev hok h10 (hw h10)
    by_cases h11 : s.kind = 11
    · exact clockOf_merge qs p cap s up uc w hr hu hux hk hev hok h11
    · exact clockOf_other qs p cap s up uc w hr hu hux hk hev hok h10 h11
end Go.Proofs.Ytfbkjopidjojeab
