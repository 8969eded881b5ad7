/-
  Walks over package plan: findCause, fits, findUnfit.
-/
import Derived.Test.YtfbkjopidjojeabDk
import Derived.Test.YtfbkjopidjojeabDn
namespace Go.Proofs.Ytfbkjopidjojeab
open Go.RowKit

/-- The first that is bad, as a fault. -/
def firstF (c : Nat) (qs : List St) (bad : Nat → Bool) : Flt := match (List.range qs.length).find? bad with
  | none => (0, 0)
  | some k => (c, ((qs[k]?).map St.no).getD 0)
theorem firstF_none {c : Nat} {qs : List St} {bad : Nat → Bool} (h : ∀ j, j < qs.length → bad j = false) : firstF c qs bad = (0, 0) := by
  have : (List.range qs.length).find? bad = none := by
    rw [List.find?_eq_none]
    intro j hj
    rw [h j (List.mem_range.1 hj)]; simp
  unfold firstF; rw [this]
theorem firstF_some {c : Nat} {qs : List St} {bad : Nat → Bool} {k : Nat} {l : St} (hk : k < qs.length) (hb : ∀ j, j < k → bad j = false) (h : bad k = true) (hl : qs[k]? = some l) : firstF c qs bad = (c, l.no) := by
  have : (List.range qs.length).find? bad = some k := by
    rw [List.find?_range_eq_some]
    exact ⟨h, List.mem_range.2 hk, fun j hj => by rw [hb j hj]; rfl⟩
  unfold firstF; rw [this]; show (c, ((qs[k]?).map St.no).getD 0) = _; rw [hl]; rfl
open Classical in
noncomputable def hangB (qs : List St) (k : Nat) : Bool := decide (Hangs qs k)
theorem hangB_iff (qs : List St) (k : Nat) : hangB qs k = true ↔ Hangs qs k := by unfold hangB; simp
theorem hang_eq {qs : List St} {k : Nat} {r : Bool} (h : r = true ↔ Hangs qs k) : hangB qs k = r := by
  have := hangB_iff qs k
  cases r <;> cases hx : hangB qs k <;> simp_all

set_option maxRecDepth 50000 in
set_option maxHeartbeats 2000000 in
theorem findCause_any (qs : List (St × Value)) (p : Option Addr) (cap : Nat) (w : World) (hl : qs.length ≤ 24) (hr : RS w p qs) (hwf : Wf (qs.map Prod.fst)) :
    Calls Try.prog 43 #[.slice p qs.length cap] w fun e w' => FltIs (firstF 9 (qs.map Prod.fst) (hangB (qs.map Prod.fst))) e ∧ Below w.heap.size w w' := by
  have hf0 := G1_f w
  have HML : Hid ((qs.map Prod.fst).length = qs.length) := by show (qs.map Prod.fst).length = qs.length; simp
  go_enter Try.func43, Try.ntmps43
  go_wp2
  go_loopw [3] (fun i wr => ∃ k : Nat, k ≤ qs.length ∧ i = .int .i64 k ∧ Hid (∀ j, j < k → hangB (qs.map Prod.fst) j = false) ∧ Hid (Below (w.heap.size + 1) (G1 w) wr)) (fun i _ => qs.length - (intOf i).toNat)
  case atStart => exact ⟨0, Nat.zero_le _, rfl, fun j hj => by omega, Below.refl _ _⟩
  case round =>
    obtain ⟨k, hk, rfl, HB, HW⟩ := hrel
    have hnx := HW.out
    have hsz := hnx.size
    rw [G1_size] at hsz
    have hfr := hf0.below hnx (by omega)
    have hbw : Below w.heap.size w wr := (G1_below w).trans (hnx.mono (by omega))
    have hrr := hr.below hbw (Nat.le_refl _)
    by_cases hlt : k < qs.length
    · obtain ⟨b, rfl, hb, hc⟩ : ∃ b, p = some ⟨b, 0, none⟩ ∧ b < wr.heap.size ∧ ∀ k (h : k < qs.length) j, j < 9 → wr.cell? ⟨b, k * 9 + j, none⟩ = (stCells qs[k].1 qs[k].2)[j]? := by
        rcases hrr.1 with h | h
        · rw [h] at hlt; simp at hlt
        · exact h
      have c0 : wr.cell? ⟨b, k * 9, none⟩ = some (.int .i64 qs[k].1.no) := hc k hlt 0 (by omega)
      have hcall := hangs_any qs (some ⟨b, 0, none⟩) cap k wr hl hlt hrr hwf
      clear hc hrr hr
      go_wp2_with fail
      refine hcall.mono ?_
      rintro e w1 ⟨⟨r, rfl, HR⟩, hb1⟩
      have HT0 : Hid (hangB (qs.map Prod.fst) k = r) := hang_eq HR.out
      have c0' : w1.cell? ⟨b, k * 9, none⟩ = some (.int .i64 qs[k].1.no) := by rw [hb1.cell (p := ⟨b, k * 9, none⟩) hb]; exact c0
      obtain ⟨fc0, fc1, ff0, ff1⟩ := (hfr.below hb1 (by omega)).c
      have hz1 := hb1.size
      have hlt1 : w.heap.size < w1.heap.size := by omega
      clear hcall
      cases r with
      | false =>
        have HT : Hid (hangB (qs.map Prod.fst) k = false) := HT0
        go_wp2
        go_roundw
        case rel => exact ⟨k + 1, by omega, by go_num, fun j hj => by
          rcases Nat.lt_or_ge j k with q | q
          · exact HB.out j q
          · have : j = k := by omega
            subst this; exact HT.out, HW.out.trans (hb1.mono (by omega))⟩
        case measure => simp [intOf]; omega
      | true =>
        have HT : Hid (firstF 9 (qs.map Prod.fst) (hangB (qs.map Prod.fst)) = (9, qs[k].1.no)) := firstF_some (by rw [HML.out]; exact hlt) HB.out HT0.out (by simp [hlt])
        go_wp2
        have q0 := ((hfr.below hb1 (by omega)).set 9 qs[k].1.no).c.1
        have q1 := ((hfr.below hb1 (by omega)).set 9 qs[k].1.no).c.2.1
        refine bodyPost_ret (v := .agg #[.int .i64 9, .int .i64 qs[k].1.no]) (by simp [results, Try.results43, go_sem, q0, q1]) rfl ⟨?_, ?_⟩
        · unfold FltIs; rw [HT.out]; rfl
        · exact ((hbw.trans (hb1.mono (by omega))).setCell (Nat.le_refl _) _).setCell (Nat.le_refl _) _
    · have HT : Hid (firstF 9 (qs.map Prod.fst) (hangB (qs.map Prod.fst)) = (0, 0)) := firstF_none (fun j hj => HB.out j (by rw [HML.out] at hj; omega))
      obtain ⟨fc0, fc1, ff0, ff1⟩ := hfr.c
      have hltr : w.heap.size < wr.heap.size := by omega
      clear hr hrr
      go_wp2
      have q0 := (hfr.set 0 0).c.1
      have q1 := (hfr.set 0 0).c.2.1
      refine bodyPost_ret (v := .agg #[.int .i64 0, .int .i64 0]) (by simp [results, Try.results43, go_sem, q0, q1]) rfl ⟨?_, ?_⟩
      · unfold FltIs; rw [HT.out]; rfl
      · exact (hbw.setCell (Nat.le_refl _) _).setCell (Nat.le_refl _) _


set_option maxRecDepth 50000 in
set_option maxHeartbeats 2000000 in
theorem fits_any (qs : List (St × Value)) (p : Option Addr) (cap : Nat) (s : St) (up : Option Addr) (uc : Nat) (w : World) (hr : RS w p qs)
    (hu : Reads w (.slice up s.uses.length uc) 1 s.uses.length (ints s.uses)) (hws : WfS qs.length s) (hok : CkOk 64 (qs.map Prod.fst)) (hck : s.ck.1.length ≤ 64 ∧ s.ck.2.length ≤ 64) :
    Calls Try.prog 67 #[.slice p qs.length cap, .agg #[.int .i64 s.no, .int .i64 s.kind, .string (S s.name), .slice up s.uses.length uc, .int .i64 s.num, .string (bs s.wd.1), .string (bs s.wd.2), .string (bs s.ck.1), .string (bs s.ck.2)]] w
      fun e w' => e = .returned (.bool (fitL (qs.map Prod.fst) s)) ∧ Below w.heap.size w w' := by
  have hS := Z1_s w s up uc
  have hbw := Z1_below w s up uc
  have hz := Z1_size w s up uc
  have hkd := hws.kind
  have b0 := hS.c 0
  have b1 := hS.c 1
  have b2 := hS.c 2
  have b3 := hS.c 3
  have b4 := hS.c 4
  have b5 := hS.c 5
  have b6 := hS.c 6
  have b7 := hS.c 7
  have b8 := hS.c 8
  simp only [stCells, List.getElem?_cons_zero, List.getElem?_cons_succ] at b0 b1 b2 b3 b4 b5 b6 b7 b8
  by_cases h13 : s.kind = 13
  · have HF : Hid (fitL (qs.map Prod.fst) s = true) := by show fitL _ _ = true; simp [fitL, h13]
    have hk : (s.kind : Int) = 13 := by omega
    clear h13 hr hu
    go_enter Try.func67, Try.ntmps67
    go_wp2
    go_ret
    exact ⟨ret_bool HF.out.symm, (Below.refl _ _).alloc (Nat.le_refl _) _⟩
  have hk13 : ¬ (s.kind : Int) = 13 := by omega
  cases hh : s.ck.2.isEmpty with
  | true =>
    have HF : Hid (fitL (qs.map Prod.fst) s = false) := by show fitL _ _ = false; simp [fitL, h13, hasC, hh]
    clear hr hu
    go_enter Try.func67, Try.ntmps67
    go_wp2_with (go_at_call 64; refine (None_any s.ck.1 s.ck.2 _).mono ?_; rintro e w1 ⟨hK, hb1⟩; subst hK)
    go_ret
    exact ⟨ret_bool HF.out.symm, hbw.trans (Below.mono hb1 (by simp))⟩
  | false =>
    have hwk : Wok 1048576 s.ck := ⟨fun e => by rw [e] at hh; simp at hh, by omega, by omega⟩
    have HF0 : Hid (fitL (qs.map Prod.fst) s = if isEv s.kind then fitEv (qs.map Prod.fst) s else if s.kind == 11 then fitMg (qs.map Prod.fst) s else if s.kind == 12 then fitBf (qs.map Prod.fst) s else true) := by show fitL _ _ = _; simp [fitL, h13, hasC, hh]
    have hA := fun (w1 : World) (h : Below w.heap.size w w1) => fitsEven_any qs p cap s up uc w1 (hr.below h (Nat.le_refl _)) (hu.below h (Nat.le_refl _)) hws.len hws.use
    have hB := fun (hx : s.kind = 11) (w1 : World) (h : Below w.heap.size w w1) => fitsMerge_any qs p cap s up uc w1 (hr.below h (Nat.le_refl _)) (hu.below h (Nat.le_refl _)) hws.use hwk ⟨hws.has (.inr (.inl hx)), by have := hws.wd; omega, by have := hws.wd; omega⟩
    have hC := fun (w1 : World) (h : Below w.heap.size w w1) => fitsBuffer_any qs p cap s up uc w1 (hr.below h (Nat.le_refl _)) (hu.below h (Nat.le_refl _)) hws.use (hok.mono (by omega)) hwk
    clear hr hu
    have hrest : ∀ w1, Below (Z1 w s up uc).heap.size (Z1 w s up uc) w1 → StB w1 w.heap.size s (.slice up s.uses.length uc) ∧ Below w.heap.size w w1 := fun w1 h => ⟨hS.below h (by rw [hz]; omega), hbw.trans (h.mono (by rw [hz]; omega))⟩
    have NA : Hid (∀ w1, Below (Z1 w s up uc).heap.size (Z1 w s up uc) w1 → StB w1 w.heap.size s (.slice up s.uses.length uc) ∧ Below w.heap.size w w1) := hrest
    clear hrest h13
    cases hev : isEv s.kind with
    | true =>
      have HF : Hid (fitL (qs.map Prod.fst) s = fitEv (qs.map Prod.fst) s) := by show fitL _ _ = _; rw [HF0.out, hev]; rfl
      go_enter Try.func67, Try.ntmps67
      go_wp2_with (first
        | (go_at_call 64; refine (None_any s.ck.1 s.ck.2 _).mono ?_; rintro e w1 ⟨hK, hb1⟩; subst hK; rw [hh]; obtain ⟨hS1, hbw1⟩ := NA.out w1 hb1; have d0 := hS1.c 0; have d1 := hS1.c 1; have d2 := hS1.c 2; have d3 := hS1.c 3; have d4 := hS1.c 4; have d5 := hS1.c 5; have d6 := hS1.c 6; have d7 := hS1.c 7; have d8 := hS1.c 8; simp only [stCells, List.getElem?_cons_zero, List.getElem?_cons_succ] at d0 d1 d2 d3 d4 d5 d6 d7 d8)
        | (go_at_call 78; refine (isEven_any s.kind _ (by omega)).mono ?_; rintro e w2 ⟨hE, hw2⟩; rw [hev] at hE; subst hE; subst w2))
      refine (hA w1 hbw1).mono ?_
      rintro e w3 ⟨rfl, hb3⟩
      go_wp2
      go_ret
      exact ⟨ret_bool HF.out.symm, hbw1.trans (hb3.mono hbw1.size)⟩
    | false =>
      by_cases h11 : s.kind = 11
      · have HF : Hid (fitL (qs.map Prod.fst) s = fitMg (qs.map Prod.fst) s) := by show fitL _ _ = _; rw [HF0.out, hev, h11]; rfl
        have hB2 := hB h11
        have hk11 : ((s.kind : Int) == 11) = true := by simp; omega
        clear h11 hB hA hC
        go_enter Try.func67, Try.ntmps67
        go_wp2_with (first
          | (go_at_call 64; refine (None_any s.ck.1 s.ck.2 _).mono ?_; rintro e w1 ⟨hK, hb1⟩; subst hK; rw [hh]; obtain ⟨hS1, hbw1⟩ := NA.out w1 hb1; have d0 := hS1.c 0; have d1 := hS1.c 1; have d2 := hS1.c 2; have d3 := hS1.c 3; have d4 := hS1.c 4; have d5 := hS1.c 5; have d6 := hS1.c 6; have d7 := hS1.c 7; have d8 := hS1.c 8; simp only [stCells, List.getElem?_cons_zero, List.getElem?_cons_succ] at d0 d1 d2 d3 d4 d5 d6 d7 d8)
          | (go_at_call 78; refine (isEven_any s.kind _ (by omega)).mono ?_; rintro e w2 ⟨hE, hw2⟩; rw [hev] at hE; subst hE; subst w2))
        refine (hB2 w1 hbw1).mono ?_
        rintro e w3 ⟨rfl, hb3⟩
        go_wp2
        go_ret
        exact ⟨ret_bool HF.out.symm, hbw1.trans (hb3.mono hbw1.size)⟩
      by_cases h12 : s.kind = 12
      · have HF : Hid (fitL (qs.map Prod.fst) s = fitBf (qs.map Prod.fst) s) := by show fitL _ _ = _; rw [HF0.out, hev, h12]; rfl
        have hk12 : ((s.kind : Int) == 12) = true := by simp; omega
        have hk11 : ((s.kind : Int) == 11) = false := by simp; omega
        clear h12 hB hA h11
        go_enter Try.func67, Try.ntmps67
        go_wp2_with (first
          | (go_at_call 64; refine (None_any s.ck.1 s.ck.2 _).mono ?_; rintro e w1 ⟨hK, hb1⟩; subst hK; rw [hh]; obtain ⟨hS1, hbw1⟩ := NA.out w1 hb1; have d0 := hS1.c 0; have d1 := hS1.c 1; have d2 := hS1.c 2; have d3 := hS1.c 3; have d4 := hS1.c 4; have d5 := hS1.c 5; have d6 := hS1.c 6; have d7 := hS1.c 7; have d8 := hS1.c 8; simp only [stCells, List.getElem?_cons_zero, List.getElem?_cons_succ] at d0 d1 d2 d3 d4 d5 d6 d7 d8)
          | (go_at_call 78; refine (isEven_any s.kind _ (by omega)).mono ?_; rintro e w2 ⟨hE, hw2⟩; rw [hev] at hE; subst hE; subst w2))
        refine (hC w1 hbw1).mono ?_
        rintro e w3 ⟨rfl, hb3⟩
        go_wp2
        go_ret
        exact ⟨ret_bool HF.out.symm, hbw1.trans (hb3.mono hbw1.size)⟩
      · have HF : Hid (fitL (qs.map Prod.fst) s = true) := by show fitL _ _ = _; rw [HF0.out, hev, beq_eq_false_iff_ne.2 h11, beq_eq_false_iff_ne.2 h12]; rfl
        have hk11 : ¬ (s.kind : Int) = 11 := by omega
        have hk12 : ¬ (s.kind : Int) = 12 := by omega
        clear h12 hB hA hC h11
        go_enter Try.func67, Try.ntmps67
        go_wp2_with (first
          | (go_at_call 64; refine (None_any s.ck.1 s.ck.2 _).mono ?_; rintro e w1 ⟨hK, hb1⟩; subst hK; rw [hh]; obtain ⟨hS1, hbw1⟩ := NA.out w1 hb1; have d0 := hS1.c 0; have d1 := hS1.c 1; have d2 := hS1.c 2; have d3 := hS1.c 3; have d4 := hS1.c 4; have d5 := hS1.c 5; have d6 := hS1.c 6; have d7 := hS1.c 7; have d8 := hS1.c 8; simp only [stCells, List.getElem?_cons_zero, List.getElem?_cons_succ] at d0 d1 d2 d3 d4 d5 d6 d7 d8)
          | (go_at_call 78; refine (isEven_any s.kind _ (by omega)).mono ?_; rintro e w2 ⟨hE, hw2⟩; rw [hev] at hE; subst hE; subst w2))
        go_ret
        exact ⟨ret_bool HF.out.symm, hbw1⟩

/-- Does the step at this place fit not? -/
def badFit (qs : List St) (k : Nat) : Bool := match qs[k]? with
  | none => false
  | some s => !fitL qs s

set_option maxRecDepth 50000 in
set_option maxHeartbeats 2000000 in
theorem findUnfit_any (qs : List (St × Value)) (p : Option Addr) (cap : Nat) (w : World) (_hl : qs.length ≤ 24) (hr : RS w p qs) (hwf : Wf (qs.map Prod.fst)) (hok : CkOk 64 (qs.map Prod.fst)) :
    Calls Try.prog 45 #[.slice p qs.length cap] w fun e w' => FltIs (firstF 10 (qs.map Prod.fst) (badFit (qs.map Prod.fst))) e ∧ Below w.heap.size w w' := by
  have hf0 := G1_f w
  have HML : Hid ((qs.map Prod.fst).length = qs.length) := by show (qs.map Prod.fst).length = qs.length; simp
  go_enter Try.func45, Try.ntmps45
  go_wp2
  go_loopw [3] (fun i wr => ∃ k : Nat, k ≤ qs.length ∧ i = .int .i64 k ∧ Hid (∀ j, j < k → badFit (qs.map Prod.fst) j = false) ∧ Hid (Below (w.heap.size + 1) (G1 w) wr)) (fun i _ => qs.length - (intOf i).toNat)
  case atStart => exact ⟨0, Nat.zero_le _, rfl, fun j hj => by omega, Below.refl _ _⟩
  case round =>
    obtain ⟨k, hk, rfl, HB, HW⟩ := hrel
    have hnx := HW.out
    have hsz := hnx.size
    rw [G1_size] at hsz
    have hfr := hf0.below hnx (by omega)
    have hbw : Below w.heap.size w wr := (G1_below w).trans (hnx.mono (by omega))
    have hrr := hr.below hbw (Nat.le_refl _)
    by_cases hlt : k < qs.length
    · obtain ⟨b, rfl, hb, hc⟩ : ∃ b, p = some ⟨b, 0, none⟩ ∧ b < wr.heap.size ∧ ∀ k (h : k < qs.length) j, j < 9 → wr.cell? ⟨b, k * 9 + j, none⟩ = (stCells qs[k].1 qs[k].2)[j]? := by
        rcases hrr.1 with h | h
        · rw [h] at hlt; simp at hlt
        · exact h
      obtain ⟨⟨s, u⟩, hq⟩ : ∃ q, qs[k] = q := ⟨_, rfl⟩
      have hmem : (s, u) ∈ qs := by rw [← hq]; exact List.getElem_mem _
      have hget : (qs.map Prod.fst)[k]? = some s := by simp [hlt, hq]
      have c0 := hc k hlt 0 (by omega)
      have c1 := hc k hlt 1 (by omega)
      have c2 := hc k hlt 2 (by omega)
      have c3 := hc k hlt 3 (by omega)
      have c4 := hc k hlt 4 (by omega)
      have c5 := hc k hlt 5 (by omega)
      have c6 := hc k hlt 6 (by omega)
      have c7 := hc k hlt 7 (by omega)
      have c8 := hc k hlt 8 (by omega)
      rw [hq] at c0 c1 c2 c3 c4 c5 c6 c7 c8
      simp only [stCells, List.getElem?_cons_zero, List.getElem?_cons_succ, Nat.add_zero] at c0 c1 c2 c3 c4 c5 c6 c7 c8
      have hrd0 := hrr.2 (s, u) hmem
      have hrd := hrd0
      obtain ⟨_, up, uc, hue, _, _⟩ := hrd
      simp only at hue
      subst hue
      have hws := hwf s (List.mem_of_getElem? hget)
      rw [HML.out] at hws
      have hcall := fits_any qs (some ⟨b, 0, none⟩) cap s up uc wr hrr hrd0 hws hok (hok s (List.mem_of_getElem? hget))
      have HT0 : Hid (badFit (qs.map Prod.fst) k = !fitL (qs.map Prod.fst) s) := by show badFit _ _ = _; unfold badFit; rw [hget]
      have HGet : Hid ((qs.map Prod.fst)[k]? = some s) := hget
      clear hc hrr hr hget hq hrd0
      go_wp2_with fail
      refine hcall.mono ?_
      rintro e w1 ⟨rfl, hb1⟩
      have c0' : w1.cell? ⟨b, k * 9, none⟩ = some (.int .i64 s.no) := by rw [hb1.cell (p := ⟨b, k * 9, none⟩) hb]; exact c0
      obtain ⟨fc0, fc1, ff0, ff1⟩ := (hfr.below hb1 (by omega)).c
      have hz1 := hb1.size
      have hlt1 : w.heap.size < w1.heap.size := by omega
      clear hcall c0 c1 c2 c3 c4 c5 c6 c7 c8
      cases hfit : fitL (qs.map Prod.fst) s with
      | true =>
        have HT : Hid (badFit (qs.map Prod.fst) k = false) := by show badFit _ _ = _; rw [HT0.out, hfit]; rfl
        go_wp2
        go_roundw
        case rel => exact ⟨k + 1, by omega, by go_num, fun j hj => by
          rcases Nat.lt_or_ge j k with q | q
          · exact HB.out j q
          · have : j = k := by omega
            subst this; exact HT.out, HW.out.trans (hb1.mono (by omega))⟩
        case measure => simp [intOf]; omega
      | false =>
        have HT : Hid (firstF 10 (qs.map Prod.fst) (badFit (qs.map Prod.fst)) = (10, s.no)) := firstF_some (by rw [HML.out]; exact hlt) HB.out (by rw [HT0.out, hfit]; rfl) HGet.out
        go_wp2
        have q0 := ((hfr.below hb1 (by omega)).set 10 s.no).c.1
        have q1 := ((hfr.below hb1 (by omega)).set 10 s.no).c.2.1
        refine bodyPost_ret (v := .agg #[.int .i64 10, .int .i64 s.no]) (by simp [results, Try.results45, go_sem, q0, q1]) rfl ⟨?_, ?_⟩
        · unfold FltIs; rw [HT.out]; rfl
        · exact ((hbw.trans (hb1.mono (by omega))).setCell (Nat.le_refl _) _).setCell (Nat.le_refl _) _
    · have HT : Hid (firstF 10 (qs.map Prod.fst) (badFit (qs.map Prod.fst)) = (0, 0)) := firstF_none (fun j hj => HB.out j (by rw [HML.out] at hj; omega))
      obtain ⟨fc0, fc1, ff0, ff1⟩ := hfr.c
      have hltr : w.heap.size < wr.heap.size := by omega
      clear hr hrr
      go_wp2
      have q0 := (hfr.set 0 0).c.1
      have q1 := (hfr.set 0 0).c.2.1
      refine bodyPost_ret (v := .agg #[.int .i64 0, .int .i64 0]) (by simp [results, Try.results45, go_sem, q0, q1]) rfl ⟨?_, ?_⟩
      · unfold FltIs; rw [HT.out]; rfl
      · exact (hbw.setCell (Nat.le_refl _) _).setCell (Nat.le_refl _) _
end Go.Proofs.Ytfbkjopidjojeab
