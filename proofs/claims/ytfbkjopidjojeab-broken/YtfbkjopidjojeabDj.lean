/-
  Walks over package plan: fitsEven, fitsMerge, fitsBuffer.
-/
import Derived.Test.YtfbkjopidjojeabDi
namespace Go.Proofs.Ytfbkjopidjojeab
open Go.RowKit

def fitEv (qs : List St) (s : St) : Bool := (List.range s.uses.length).all fun n => ucL qs s n == s.ck
def fitMg (qs : List St) (s : St) : Bool := onW s.ck s.wd == ucL qs s 0 && onW s.ck (notW s.wd) == ucL qs s 1
/-- Does the one adapt to the other? -/
def adB (a b : Wd) : Bool := decide (dri a.2 b.2 = 0) && decide (0 ≤ mn (bitAt a.1 a.2) (bitAt b.1 b.2) (max a.1.length b.1.length + Nat.lcm a.2.length b.2.length))
def fitBf (qs : List St) (s : St) : Bool := hasC (ucL qs s 0) && adB (ucL qs s 0) s.ck
def fitL (qs : List St) (s : St) : Bool :=
  if s.kind == 13 then true
  else if !hasC s.ck then false
  else if isEv s.kind then fitEv qs s
  else if s.kind == 11 then fitMg qs s
  else if s.kind == 12 then fitBf qs s
  else true
theorem adB_iff {a b : Wd} (ha : a.2 ≠ []) (hb : b.2 ≠ []) : adB a b = true ↔ AdaptsS (bitAt a.1 a.2) (bitAt b.1 b.2) := by
  have := adapts_iff (u := a.1) (x := b.1) ha hb (Nat.dvd_lcm_left a.2.length b.2.length) (Nat.dvd_lcm_right a.2.length b.2.length) (Nat.lcm_pos (List.length_pos_iff.2 ha) (List.length_pos_iff.2 hb))
  rw [← this]
  simp [adB]

/-- The world with a step. -/
def Z1 (w : World) (s : St) (up : Option Addr) (uc : Nat) : World := w.alloc (Obj.cells #[.int .i64 s.no, .int .i64 s.kind, .string (S s.name), .slice up s.uses.length uc, .int .i64 s.num, .string (bs s.wd.1), .string (bs s.wd.2), .string (bs s.ck.1), .string (bs s.ck.2)] 76)
theorem Z1_size (w : World) (s : St) (up : Option Addr) (uc : Nat) : (Z1 w s up uc).heap.size = w.heap.size + 1 := by simp [Z1]
theorem Z1_below (w : World) (s : St) (up : Option Addr) (uc : Nat) : Below w.heap.size w (Z1 w s up uc) := (Below.refl w.heap.size w).alloc (Nat.le_refl _) _
theorem Z1_s (w : World) (s : St) (up : Option Addr) (uc : Nat) : StB (Z1 w s up uc) w.heap.size s (.slice up s.uses.length uc) := by
  unfold StB Z1
  rw [heap_alloc_new]
  rfl
theorem bs_beq_false {a b : List Bool} (h : a ≠ b) : ((bs a).toList == (bs b).toList) = false := by
  rw [beq_eq_false_iff_ne]
  intro e
  rw [ByteArray.toList_eq, ByteArray.toList_eq] at e
  exact h (bs_inj (WideShapes.bytes_inj e))
theorem wd_ne {a b : Wd} (h : a ≠ b) : bs a.1 ≠ bs b.1 ∨ bs a.2 ≠ bs b.2 := by
  rcases Decidable.em (a.1 = b.1) with h1 | h1
  · right
    intro h2
    exact h (Prod.ext h1 (bs_inj h2))
  · left; exact fun h2 => h1 (bs_inj h2)

set_option maxRecDepth 50000 in
set_option maxHeartbeats 2000000 in
theorem fitsEven_any (qs : List (St × Value)) (p : Option Addr) (cap : Nat) (s : St) (up : Option Addr) (uc : Nat) (w : World) (hr : RS w p qs)
    (hu : Reads w (.slice up s.uses.length uc) 1 s.uses.length (ints s.uses)) (hul : s.uses.length ≤ 1048575) (hux : ∀ x ∈ s.uses, x < qs.length) :
    Calls Try.prog 82 #[.slice p qs.length cap, .agg #[.int .i64 s.no, .int .i64 s.kind, .string (S s.name), .slice up s.uses.length uc, .int .i64 s.num, .string (bs s.wd.1), .string (bs s.wd.2), .string (bs s.ck.1), .string (bs s.ck.2)]] w
      fun e w' => e = .returned (.bool (fitEv (qs.map Prod.fst) s)) ∧ Below w.heap.size w w' := by
  have hS := Z1_s w s up uc
  go_enter Try.func82, Try.ntmps82
  go_wp2
  go_loopw [5] (fun i wr => ∃ k : Nat, i = .int .i64 k ∧ k ≤ s.uses.length ∧ Hid (∀ j, j < k → ucL (qs.map Prod.fst) s j = s.ck) ∧ Hid (Below (w.heap.size + 1) (Z1 w s up uc) wr)) (fun i _ => s.uses.length - (intOf i).toNat)
  case atStart => exact ⟨0, rfl, Nat.zero_le _, fun j hj => by omega, Below.refl _ _⟩
  case round =>
    obtain ⟨k, rfl, hk, HB, HW⟩ := hrel
    have hnx := HW.out
    have hsz := hnx.size
    rw [Z1_size] at hsz
    have hS1 := hS.below hnx (by omega)
    have b0 := hS1.c 0
    have b1 := hS1.c 1
    have b2 := hS1.c 2
    have b3 := hS1.c 3
    have b4 := hS1.c 4
    have b5 := hS1.c 5
    have b6 := hS1.c 6
    have b7 := hS1.c 7
    have b8 := hS1.c 8
    simp only [stCells, List.getElem?_cons_zero, List.getElem?_cons_succ] at b0 b1 b2 b3 b4 b5 b6 b7 b8
    have hbw : Below w.heap.size w wr := (Z1_below w s up uc).trans (hnx.mono (by omega))
    by_cases hlt : k < s.uses.length
    · have hcall := usedClock_any qs p cap s up uc k wr.drew (by omega) (hr.below hbw.drew (Nat.le_refl _)) (hu.below hbw.drew (Nat.le_refl _)) hux
      obtain ⟨c, hc⟩ : ∃ c, ucL (qs.map Prod.fst) s k = c := ⟨_, rfl⟩
      rw [hc] at hcall
      have HC : Hid (ucL (qs.map Prod.fst) s k = c) := hc
      clear hc hr hu
      by_cases heq : c = s.ck
      · go_wp2
        go_region_held3 (fun w' => w'.cell? ⟨w.heap.size, 0, none⟩ = some (.int .i64 s.no) ∧ w'.cell? ⟨w.heap.size, 1, none⟩ = some (.int .i64 s.kind) ∧ w'.cell? ⟨w.heap.size, 2, none⟩ = some (.string (S s.name)) ∧ w'.cell? ⟨w.heap.size, 3, none⟩ = some (.slice up s.uses.length uc) ∧ w'.cell? ⟨w.heap.size, 4, none⟩ = some (.int .i64 s.num) ∧ w'.cell? ⟨w.heap.size, 5, none⟩ = some (.string (bs s.wd.1)) ∧ w'.cell? ⟨w.heap.size, 6, none⟩ = some (.string (bs s.wd.2)) ∧ w'.cell? ⟨w.heap.size, 7, none⟩ = some (.string (bs s.ck.1)) ∧ w'.cell? ⟨w.heap.size, 8, none⟩ = some (.string (bs s.ck.2))) (go_keep)
          (first | (go_at_call 56; refine hcall.mono ?_; rintro e w1 ⟨hK, hb1⟩; unfold CkIs at hK; subst hK; have hb1' : Below wr.heap.size wr w1 := below_undrew (W := wr) hb1; have hS2 := hS1.below hb1' (by omega); have bb0 := hS2.c 0; have bb1 := hS2.c 1; have bb2 := hS2.c 2; have bb3 := hS2.c 3; have bb4 := hS2.c 4; have bb5 := hS2.c 5; have bb6 := hS2.c 6; have bb7 := hS2.c 7; have bb8 := hS2.c 8; simp only [stCells, List.getElem?_cons_zero, List.getElem?_cons_succ] at bb0 bb1 bb2 bb3 bb4 bb5 bb6 bb7 bb8))
        go_wp2
        go_roundw
        case rel => exact ⟨k + 1, by go_num, by omega, fun j hj => by
          rcases Nat.lt_or_ge j k with q | q
          · exact HB.out j q
          · have : j = k := by omega
            subst this; rw [HC.out]; exact heq, HW.out.trans (hb1'.mono (by omega))⟩
        case measure => simp [intOf]; omega
      have HNE : Hid (fitEv (qs.map Prod.fst) s = false) := by
        show fitEv _ _ = false
        unfold fitEv
        rw [List.all_eq_false]
        exact ⟨k, List.mem_range.2 hlt, by rw [HC.out]; simpa using heq⟩
      by_cases h1 : c.1 = s.ck.1
      · have gB1 : ((bs c.1).toList == (bs s.ck.1).toList) = true := by rw [h1]; simp
        have gB2 : ((bs c.2).toList == (bs s.ck.2).toList) = false := bs_beq_false (fun h2 => heq (Prod.ext h1 h2))
        clear h1
        go_wp2
        go_region_held3 (fun w' => w'.cell? ⟨w.heap.size, 0, none⟩ = some (.int .i64 s.no) ∧ w'.cell? ⟨w.heap.size, 1, none⟩ = some (.int .i64 s.kind) ∧ w'.cell? ⟨w.heap.size, 2, none⟩ = some (.string (S s.name)) ∧ w'.cell? ⟨w.heap.size, 3, none⟩ = some (.slice up s.uses.length uc) ∧ w'.cell? ⟨w.heap.size, 4, none⟩ = some (.int .i64 s.num) ∧ w'.cell? ⟨w.heap.size, 5, none⟩ = some (.string (bs s.wd.1)) ∧ w'.cell? ⟨w.heap.size, 6, none⟩ = some (.string (bs s.wd.2)) ∧ w'.cell? ⟨w.heap.size, 7, none⟩ = some (.string (bs s.ck.1)) ∧ w'.cell? ⟨w.heap.size, 8, none⟩ = some (.string (bs s.ck.2))) (go_keep)
          (first | (go_at_call 56; refine hcall.mono ?_; rintro e w1 ⟨hK, hb1⟩; unfold CkIs at hK; subst hK; have hb1' : Below wr.heap.size wr w1 := below_undrew (W := wr) hb1; have hS2 := hS1.below hb1' (by omega); have bb0 := hS2.c 0; have bb1 := hS2.c 1; have bb2 := hS2.c 2; have bb3 := hS2.c 3; have bb4 := hS2.c 4; have bb5 := hS2.c 5; have bb6 := hS2.c 6; have bb7 := hS2.c 7; have bb8 := hS2.c 8; simp only [stCells, List.getElem?_cons_zero, List.getElem?_cons_succ] at bb0 bb1 bb2 bb3 bb4 bb5 bb6 bb7 bb8))
        go_wp2
        go_ret
        exact ⟨ret_bool HNE.out.symm, hbw.trans (hb1'.mono (by omega))⟩
      · have gA : ((bs c.1).toList == (bs s.ck.1).toList) = false := bs_beq_false h1
        go_wp2
        go_region_held3 (fun w' => w'.cell? ⟨w.heap.size, 0, none⟩ = some (.int .i64 s.no) ∧ w'.cell? ⟨w.heap.size, 1, none⟩ = some (.int .i64 s.kind) ∧ w'.cell? ⟨w.heap.size, 2, none⟩ = some (.string (S s.name)) ∧ w'.cell? ⟨w.heap.size, 3, none⟩ = some (.slice up s.uses.length uc) ∧ w'.cell? ⟨w.heap.size, 4, none⟩ = some (.int .i64 s.num) ∧ w'.cell? ⟨w.heap.size, 5, none⟩ = some (.string (bs s.wd.1)) ∧ w'.cell? ⟨w.heap.size, 6, none⟩ = some (.string (bs s.wd.2)) ∧ w'.cell? ⟨w.heap.size, 7, none⟩ = some (.string (bs s.ck.1)) ∧ w'.cell? ⟨w.heap.size, 8, none⟩ = some (.string (bs s.ck.2))) (go_keep)
          (first | (go_at_call 56; refine hcall.mono ?_; rintro e w1 ⟨hK, hb1⟩; unfold CkIs at hK; subst hK; have hb1' : Below wr.heap.size wr w1 := below_undrew (W := wr) hb1; have hS2 := hS1.below hb1' (by omega); have bb0 := hS2.c 0; have bb1 := hS2.c 1; have bb2 := hS2.c 2; have bb3 := hS2.c 3; have bb4 := hS2.c 4; have bb5 := hS2.c 5; have bb6 := hS2.c 6; have bb7 := hS2.c 7; have bb8 := hS2.c 8; simp only [stCells, List.getElem?_cons_zero, List.getElem?_cons_succ] at bb0 bb1 bb2 bb3 bb4 bb5 bb6 bb7 bb8))
        go_wp2
        go_ret
        exact ⟨ret_bool HNE.out.symm, hbw.trans (hb1'.mono (by omega))⟩
    · have HE : Hid (fitEv (qs.map Prod.fst) s = true) := by
        show fitEv _ _ = true
        unfold fitEv
        rw [List.all_eq_true]
        intro j hj
        rw [HB.out j (by have := List.mem_range.1 hj; omega)]; simp
      clear hr hu
      go_wp2
      go_ret
      exact ⟨ret_bool HE.out.symm, hbw⟩
end Go.Proofs.Ytfbkjopidjojeab
