/-
  Walks over package plan: firstClock, clockOf.
-/
import Derived.Test.YtfbkjopidjojeabDd
namespace Go.Proofs.Ytfbkjopidjojeab
open Go.RowKit

/-- A step in a block of its own. -/
def StB (w : World) (b : Nat) (s : St) (u : Value) : Prop := w.heap[b]? = some (.cells (stCells s u).toArray 76 (0, 0))
theorem StB.c {w : World} {b : Nat} {l : St} {u : Value} (h : StB w b l u) (j : Nat) : w.cell? ⟨b, j, none⟩ = (stCells l u)[j]? := by
  rw [cell_of_row w b j _ _ _ h]; simp
theorem StB.below {w w' : World} {B b : Nat} {l : St} {u : Value} (h : StB w b l u) (hb : Below B w w') (hB : b < B) : StB w' b l u := by
  unfold StB; rw [hb.block b hB]; exact h
/-- The world with a step and a word of nothing. -/
def Z2 (w : World) (s : St) (up : Option Addr) (uc : Nat) : World := (w.alloc (Obj.cells #[.int .i64 s.no, .int .i64 s.kind, .string (S s.name), .slice up s.uses.length uc, .int .i64 s.num, .string (bs s.wd.1), .string (bs s.wd.2), .string (bs s.ck.1), .string (bs s.ck.2)] 76)).alloc (Obj.cells #[.string ⟨#[]⟩, .string ⟨#[]⟩] 74)
theorem Z2_size (w : World) (s : St) (up : Option Addr) (uc : Nat) : (Z2 w s up uc).heap.size = w.heap.size + 1 + 1 := by simp [Z2]
theorem Z2_below (w : World) (s : St) (up : Option Addr) (uc : Nat) : Below w.heap.size w (Z2 w s up uc) := ((Below.refl w.heap.size w).alloc (Nat.le_refl _) _).alloc (by simp) _
theorem Z2_s (w : World) (s : St) (up : Option Addr) (uc : Nat) : StB (Z2 w s up uc) w.heap.size s (.slice up s.uses.length uc) := by
  unfold StB Z2
  rw [Below.heap_alloc _ _ _ (by simp), heap_alloc_new]
  rfl
theorem Z2_r (w : World) (s : St) (up : Option Addr) (uc : Nat) : Boxed (Z2 w s up uc) (w.heap.size + 1) ⟨#[]⟩ ⟨#[]⟩ := Boxed.new _ _ _ _ _ (by simp)
theorem bs_emp {v : List Bool} : (bs v).toList.isEmpty = v.isEmpty := by
  rw [ByteArray.toList_eq, bs_toList]; cases v <;> rfl
set_option maxRecDepth 50000 in
set_option maxHeartbeats 400000 in
theorem None_any (u v : List Bool) (w : World) : Calls Try.prog 64 #[.agg #[.string (bs u), .string (bs v)]] w fun e w' => e = .returned (.bool v.isEmpty) ∧ Below w.heap.size w w' := by
  have hh := bs_emp (v := v)
  go_enter Try.func64, Try.ntmps64
  go_wp2
  go_ret
  exact ⟨rfl, (Below.refl _ _).alloc (Nat.le_refl _) _⟩
theorem fcL_hit {qs : List St} {s : St} {k : Nat} (hk : k < s.uses.length) (hb : ∀ j, j < k → hasC (ucL qs s j) = false) (h : hasC (ucL qs s k) = true) : fcL qs s = ucL qs s k := by
  have : (List.range s.uses.length).find? (fun n => hasC (ucL qs s n)) = some k := by
    rw [List.find?_range_eq_some]
    exact ⟨h, List.mem_range.2 hk, fun j hj => by rw [hb j hj]; rfl⟩
  unfold fcL; rw [this]; rfl
theorem fcL_none {qs : List St} {s : St} (hb : ∀ j, j < s.uses.length → hasC (ucL qs s j) = false) : fcL qs s = ([], []) := by
  have : (List.range s.uses.length).find? (fun n => hasC (ucL qs s n)) = none := by
    rw [List.find?_eq_none]
    intro j hj
    rw [hb j (List.mem_range.1 hj)]; simp
  unfold fcL; rw [this]; rfl

set_option maxRecDepth 50000 in
set_option maxHeartbeats 1000000 in
theorem firstClock_any (qs : List (St × Value)) (p : Option Addr) (cap : Nat) (s : St) (up : Option Addr) (uc : Nat) (w : World) (hr : RS w p qs)
    (hu : Reads w (.slice up s.uses.length uc) 1 s.uses.length (ints s.uses)) (hul : s.uses.length ≤ 1048575) (hux : ∀ x ∈ s.uses, x < qs.length) :
    Calls Try.prog 79 #[.slice p qs.length cap, .agg #[.int .i64 s.no, .int .i64 s.kind, .string (S s.name), .slice up s.uses.length uc, .int .i64 s.num, .string (bs s.wd.1), .string (bs s.wd.2), .string (bs s.ck.1), .string (bs s.ck.2)]] w
      fun e w' => CkIs (fcL (qs.map Prod.fst) s) e ∧ Below w.heap.size w w' := by
  have hS := Z2_s w s up uc
  have hR := Z2_r w s up uc
  go_enter Try.func79, Try.ntmps79
  go_wp2
  go_loopw [5] (fun i wr => ∃ k : Nat, i = .int .i64 k ∧ k ≤ s.uses.length ∧ Hid (∀ j, j < k → hasC (ucL (qs.map Prod.fst) s j) = false) ∧ Hid (Below (w.heap.size + 1 + 1) (Z2 w s up uc) wr)) (fun i _ => s.uses.length - (intOf i).toNat)
  case atStart => exact ⟨0, rfl, Nat.zero_le _, fun j hj => by omega, Below.refl _ _⟩
  case round =>
    obtain ⟨k, rfl, hk, HB, HW⟩ := hrel
    have hnx := HW.out
    have hsz := hnx.size
    rw [Z2_size] at hsz
    have hS1 := hS.below hnx (by omega)
    have hR1 := hR.below hnx (by omega)
    have b0 := hS1.c 0
    have b1 := hS1.c 1
    have b2 := hS1.c 2
    have b3 := hS1.c 3
    have b4 := hS1.c 4
    have b5 := hS1.c 5
    have b6 := hS1.c 6
    have b7 := hS1.c 7
    have b8 := hS1.c 8
    simp only [stCells, List.getElem?_cons_zero, List.getElem?_cons_succ] at b0 b1 b2 b3 b4 b5 b6 b7 b8
    have hbw : Below w.heap.size w wr := (Z2_below w s up uc).trans (hnx.mono (by omega))
    by_cases hlt : k < s.uses.length
    · have hcall := usedClock_any qs p cap s up uc k wr (by omega) (hr.below hbw (Nat.le_refl _)) (hu.below hbw (Nat.le_refl _)) hux
      obtain ⟨c, hc⟩ : ∃ c, ucL (qs.map Prod.fst) s k = c := ⟨_, rfl⟩
      rw [hc] at hcall
      have HC : Hid (ucL (qs.map Prod.fst) s k = c) := hc
      clear hc hr hu
      by_cases hh : c.2.isEmpty = true
      · go_wp2_with (first
          | (go_at_call 56; refine hcall.mono ?_; rintro e w1 ⟨hK, hb1⟩; unfold CkIs at hK; subst hK)
          | (go_at_call 64; refine (None_any c.1 c.2 _).mono ?_; rintro e w2 ⟨hK, hb2⟩; subst hK; have hb3 := hb2; have hz1 := hb1.size; have hb12 : Below wr.heap.size wr w2 := (hb1.trans ((Below.refl _ _).alloc hz1 _)).trans (hb2.mono (by simp; omega)); have hz2 := hb12.size; have hcx : Boxed w2 w1.heap.size (bs c.1) (bs c.2) := (Boxed.new w1 _ (bs c.1) (bs c.2) _ rfl).below hb2 (by simp); obtain ⟨x0, x1, _, _⟩ := hcx; have hR2 := hR1.below hb12 (by omega); obtain ⟨r0, r1, g0, g1⟩ := hR2))
        clear hcall
        go_roundw
        case rel => exact ⟨k + 1, by go_num, by omega, fun j hj => by
          rcases Nat.lt_or_ge j k with q | q
          · exact HB.out j q
          · have : j = k := by omega
            subst this; rw [HC.out]; simp [hasC, hh], HW.out.trans (hb12.mono (by omega))⟩
        case measure => simp [intOf]; omega
      · have hh2 : c.2.isEmpty = false := by simpa using hh
        have HF : Hid (fcL (qs.map Prod.fst) s = c) := by
          show fcL _ _ = _
          rw [fcL_hit hlt HB.out (by rw [HC.out]; simp [hasC, hh2]), HC.out]
        go_wp2_with (first
          | (go_at_call 56; refine hcall.mono ?_; rintro e w1 ⟨hK, hb1⟩; unfold CkIs at hK; subst hK)
          | (go_at_call 64; refine (None_any c.1 c.2 _).mono ?_; rintro e w2 ⟨hK, hb2⟩; subst hK; have hb3 := hb2; have hz1 := hb1.size; have hb12 : Below wr.heap.size wr w2 := (hb1.trans ((Below.refl _ _).alloc hz1 _)).trans (hb2.mono (by simp; omega)); have hz2 := hb12.size; have hcx : Boxed w2 w1.heap.size (bs c.1) (bs c.2) := (Boxed.new w1 _ (bs c.1) (bs c.2) _ rfl).below hb2 (by simp); obtain ⟨x0, x1, _, _⟩ := hcx; have hR2 := hR1.below hb12 (by omega); obtain ⟨r0, r1, g0, g1⟩ := hR2))
        have hst := Boxed.store ⟨r0, r1, g0, g1⟩ (bs c.1) (bs c.2)
        have q0 := hst.c0
        have q1 := hst.c1
        refine bodyPost_ret (v := .agg #[.string (bs c.1), .string (bs c.2)]) (by simp [results, Try.results79, go_sem, q0, q1]) rfl ⟨?_, ?_⟩
        · unfold CkIs; rw [HF.out]
        · exact ((hbw.trans (hb12.mono (by omega))).setCell (by show w.heap.size ≤ w.heap.size + 1; omega) _).setCell (by show w.heap.size ≤ w.heap.size + 1; omega) _
    · have HF : Hid (fcL (qs.map Prod.fst) s = ([], [])) := fcL_none (fun j hj => HB.out j (by omega))
      obtain ⟨r0, r1, g0, g1⟩ := hR1
      clear hr hu
      go_wp2
      have hst := Boxed.store ⟨r0, r1, g0, g1⟩ ⟨#[]⟩ ⟨#[]⟩
      have q0 := hst.c0
      have q1 := hst.c1
      refine bodyPost_ret (v := .agg #[.string ⟨#[]⟩, .string ⟨#[]⟩]) (by simp [results, Try.results79, go_sem, q0, q1]) rfl ⟨?_, ?_⟩
      · unfold CkIs; rw [HF.out]; rfl
      · exact (hbw.setCell (by show w.heap.size ≤ w.heap.size + 1; omega) _).setCell (by show w.heap.size ≤ w.heap.size + 1; omega) _
end Go.Proofs.Ytfbkjopidjojeab
