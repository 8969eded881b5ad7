/-
  Walks over package plan: clockOf.
-/
import Derived.Test.YtfbkjopidjojeabDe
namespace Go.Proofs.Ytfbkjopidjojeab
open Go.RowKit

/-- On, Either, Not by the model. -/
def onW (a b : Wd) : Wd := nfL (onS (bitAt a.1 a.2) (bitAt b.1 b.2)) (a.1.length + b.1.length * a.2.length) (b.2.length * a.2.length)
def orW (a b : Wd) : Wd := nfL (fun n => bitAt a.1 a.2 n || bitAt b.1 b.2 n) (max a.1.length b.1.length) (Nat.lcm a.2.length b.2.length)
def notW (a : Wd) : Wd := nfL (fun n => !bitAt a.1 a.2 n) a.1.length a.2.length
/-- A word that is one, and not too long to reckon with. -/
def Wok (n : Nat) (c : Wd) : Prop := c.2 ≠ [] ∧ c.1.length ≤ n ∧ c.2.length ≤ n
theorem EP_onW {a b : Wd} (ha : a.2 ≠ []) (hb : b.2 ≠ []) : EP (onS (bitAt a.1 a.2) (bitAt b.1 b.2)) (a.1.length + b.1.length * a.2.length) (b.2.length * a.2.length) := by
  have hf := EP_bitAt a.1 a.2 ha
  have hg := EP_bitAt b.1 b.2 hb
  have hb0 : 0 < b.2.length := List.length_pos_iff.2 hb
  obtain ⟨c, hc⟩ : ∃ c, ones (fun i => bitAt a.1 a.2 (a.1.length + i)) a.2.length = c := ⟨_, rfl⟩
  rcases Nat.eq_zero_or_pos c with h0 | h0
  · subst h0
    have h1 := EP_on_none (g := bitAt b.1 b.2) hf hc
    refine ⟨Nat.mul_pos hb0 hf.1, fun n hn => ?_⟩
    exact h1.mul b.2.length n (by omega)
  · exact EP_on hf hg hc (by have := Nat.le_mul_of_pos_right b.1.length h0; omega) hb0 (Nat.dvd_mul_right _ _)

theorem On_m (a b : Wd) (w : World) (ha : Wok 1048576 a) (hb : Wok 1048576 b) :
    Calls Try.prog 80 #[.agg #[.string (bs a.1), .string (bs a.2)], .agg #[.string (bs b.1), .string (bs b.2)]] w fun e w' => (CkIs (onW a b) e ∧ Hid (Wok 2199023255552 (onW a b))) ∧ Below w.heap.size w w' := by
  refine (On_any a.1 a.2 b.1 b.2 w ha.1 hb.1 ha.2.1 ha.2.2 hb.2.1 hb.2.2).mono ?_
  rintro e w' ⟨⟨u, v, rfl, h, h1, h2⟩, hb'⟩
  have e : onW a b = (u, v) := nfL_eq h (EP_onW ha.1 hb.1)
  refine ⟨⟨by unfold CkIs; rw [e], ?_⟩, hb'⟩
  show Wok _ _
  rw [e]; exact ⟨h.ne, h1, Nat.le_trans h2 (by omega)⟩
theorem Either_m (a b : Wd) (w : World) (ha : Wok 1048576 a) (hb : Wok 1048576 b) :
    Calls Try.prog 81 #[.agg #[.string (bs a.1), .string (bs a.2)], .agg #[.string (bs b.1), .string (bs b.2)]] w fun e w' => (CkIs (orW a b) e ∧ Hid (Wok 2199023255552 (orW a b))) ∧ Below w.heap.size w w' := by
  refine (Either_any a.1 a.2 b.1 b.2 w ha.1 hb.1 ha.2.1 ha.2.2 hb.2.1 hb.2.2).mono ?_
  rintro e w' ⟨⟨u, v, rfl, h, h1, h2⟩, hb'⟩
  have e : orW a b = (u, v) := nfL_eq h (EP_or (EP_bitAt a.1 a.2 ha.1) (EP_bitAt b.1 b.2 hb.1))
  refine ⟨⟨by unfold CkIs; rw [e], ?_⟩, hb'⟩
  show Wok _ _
  rw [e]
  have h3 := lcm_le_mul a.2.length b.2.length
  have h4 : a.2.length * b.2.length ≤ 1048576 * 1048576 := Nat.mul_le_mul ha.2.2 hb.2.2
  exact ⟨h.ne, by have := ha.2.1; have := hb.2.1; simp only; omega, by simp only; omega⟩
theorem Not_m (a : Wd) (w : World) (ha : Wok 1048576 a) :
    Calls Try.prog 101 #[.agg #[.string (bs a.1), .string (bs a.2)]] w fun e w' => (CkIs (notW a) e ∧ Hid (Wok 1048576 (notW a))) ∧ Below w.heap.size w w' := by
  refine (Not_any a.1 a.2 w ha.1 ha.2.1 ha.2.2).mono ?_
  rintro e w' ⟨⟨u, v, rfl, h, h1, h2⟩, hb'⟩
  have e : notW a = (u, v) := nfL_eq h (EP_map (EP_bitAt a.1 a.2 ha.1))
  refine ⟨⟨by unfold CkIs; rw [e], ?_⟩, hb'⟩
  show Wok _ _
  rw [e]; exact ⟨h.ne, Nat.le_trans h1 ha.2.1, Nat.le_trans h2 ha.2.2⟩

/-- The clock that a step gets. -/
def ckOf (qs : List St) (s : St) : Wd :=
  if isEv s.kind then fcL qs s
  else if s.kind == 10 && hasC (ucL qs s 0) then onW (ucL qs s 0) s.wd
  else if s.kind == 11 && hasC (ucL qs s 0) && hasC (ucL qs s 1) then orW (ucL qs s 0) (ucL qs s 1)
  else ([], [])
/-- All clocks so far are short. -/
def CkOk (n : Nat) (qs : List St) : Prop := ∀ s ∈ qs, s.ck.1.length ≤ n ∧ s.ck.2.length ≤ n
theorem ucL_ok {n : Nat} {qs : List St} (h : CkOk n qs) (s : St) (k : Nat) : (ucL qs s k).1.length ≤ n ∧ (ucL qs s k).2.length ≤ n := by
  unfold ucL
  split
  · exact ⟨Nat.zero_le _, Nat.zero_le _⟩
  · split
    · exact ⟨Nat.zero_le _, Nat.zero_le _⟩
    · rename_i t e; exact h t (List.mem_of_getElem? e)
theorem ucL_wok {n : Nat} {qs : List St} (h : CkOk n qs) (s : St) (k : Nat) (hh : hasC (ucL qs s k) = true) : Wok n (ucL qs s k) := by
  have := ucL_ok h s k
  refine ⟨fun e => ?_, this⟩
  rw [hasC, e] at hh; simp at hh
theorem fcL_ok {n : Nat} {qs : List St} (h : CkOk n qs) (s : St) : (fcL qs s).1.length ≤ n ∧ (fcL qs s).2.length ≤ n := by
  unfold fcL
  cases (List.range s.uses.length).find? (fun n => hasC (ucL qs s n)) with
  | none => exact ⟨Nat.zero_le _, Nat.zero_le _⟩
  | some k => exact ucL_ok h s k

set_option maxRecDepth 50000 in
set_option maxHeartbeats 1000000 in
theorem clockOf_even (qs : List (St × Value)) (p : Option Addr) (cap : Nat) (s : St) (up : Option Addr) (uc : Nat) (w : World) (hr : RS w p qs)
    (hu : Reads w (.slice up s.uses.length uc) 1 s.uses.length (ints s.uses)) (hul : s.uses.length ≤ 1048575) (hux : ∀ x ∈ s.uses, x < qs.length) (hk : s.kind ≤ 13) (hev : isEv s.kind = true) :
    Calls Try.prog 65 #[.slice p qs.length cap, .agg #[.int .i64 s.no, .int .i64 s.kind, .string (S s.name), .slice up s.uses.length uc, .int .i64 s.num, .string (bs s.wd.1), .string (bs s.wd.2), .string (bs s.ck.1), .string (bs s.ck.2)]] w
      fun e w' => CkIs (ckOf (qs.map Prod.fst) s) e ∧ Below w.heap.size w w' := by
  have hS := Z2_s w s up uc
  have hR := Z2_r w s up uc
  have HK : Hid (ckOf (qs.map Prod.fst) s = fcL (qs.map Prod.fst) s) := by show ckOf _ _ = _; unfold ckOf; rw [if_pos hev]
  have b0 := hS.c 0
  have b1 := hS.c 1
  have b2 := hS.c 2
  have b3 := hS.c 3
  have b4 := hS.c 4
  have b5 := hS.c 5
  have b6 := hS.c 6
  have b7 := hS.c 7
  have b8 := hS.c 8
  simp only [stCells, List.getElem?_cons_zero, List.getElem?_cons_succ] at b0 b1 b2 b3 b4 b5 b6 b7 b8
  have hbw := Z2_below w s up uc
  have hcall := firstClock_any qs p cap s up uc (Z2 w s up uc) (hr.below hbw (Nat.le_refl _)) (hu.below hbw (Nat.le_refl _)) hul hux
  clear hr hu
  go_enter Try.func65, Try.ntmps65
  go_wp2_with (first
    | (go_at_call 78; refine (isEven_any s.kind _ (by omega)).mono ?_; rintro e w1 ⟨hE, hw1⟩; subst hE; subst w1)
    | (go_at_call 79; refine hcall.mono ?_; rintro e w1 ⟨hK, hb1⟩; unfold CkIs at hK; subst hK; have hR2 := hR.below hb1 (by rw [Z2_size]; omega); obtain ⟨r0, r1, g0, g1⟩ := hR2))
  have hbz : Below w.heap.size w w1 := hbw.trans (hb1.mono (by rw [Z2_size]; omega))
  have hst := Boxed.store ⟨r0, r1, g0, g1⟩ (bs (fcL (qs.map Prod.fst) s).1) (bs (fcL (qs.map Prod.fst) s).2)
  have q0 := hst.c0
  have q1 := hst.c1
  refine bodyPost_ret (v := .agg #[.string (bs (fcL (qs.map Prod.fst) s).1), .string (bs (fcL (qs.map Prod.fst) s).2)]) (by simp [results, Try.results65, go_sem, q0, q1]) rfl ⟨?_, ?_⟩
  · unfold CkIs; rw [HK.out]
  · exact (hbz.setCell (by show w.heap.size ≤ w.heap.size + 1; omega) _).setCell (by show w.heap.size ≤ w.heap.size + 1; omega) _
end Go.Proofs.Ytfbkjopidjojeab
