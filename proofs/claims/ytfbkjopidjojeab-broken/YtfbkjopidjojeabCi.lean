/-
  Walks over package source: parse.
-/
import Derived.Test.YtfbkjopidjojeabCh
namespace Go.Proofs.Ytfbkjopidjojeab
open Go.RowKit

/-- What fill gives, in one form. -/
theorem Filled.gen {B : Nat} {o : Option Ln} {e : Ending} {w' : World} (h : Filled B o e w') : ∃ (n1 n2 : Int) (nm : ByteArray) (up : Option Addr) (un uc : Nat) (n3 : Int) (y1 y2 : ByteArray) (ok : Bool), e = .returned (.tuple #[.agg #[.int .i64 n1, .int .i64 n2, .string nm, .slice up un uc, .int .i64 n3, .string y1, .string y2], .bool ok]) ∧ Hid (Filled B o (.returned (.tuple #[.agg #[.int .i64 n1, .int .i64 n2, .string nm, .slice up un uc, .int .i64 n3, .string y1, .string y2], .bool ok])) w') := by
  rcases h with ⟨h1, rfl⟩ | ⟨l, u, h1, rfl, hown⟩
  · exact ⟨_, _, _, _, _, _, _, _, _, _, rfl, .inl ⟨h1, rfl⟩⟩
  · obtain ⟨up, un, uc, rfl⟩ := own_isSlice hown
    exact ⟨_, _, _, _, _, _, _, _, _, _, rfl, .inr ⟨l, _, h1, rfl, hown⟩⟩
theorem Filled.move {B B' : Nat} {o : Option Ln} {e : Ending} {w1 w2 : World} (h : Filled B o e w1) (hm : ∀ v n xs, w1.ownsRow B 9 1 v n xs → w2.ownsRow B' 9 1 v n xs) : Filled B' o e w2 := by
  rcases h with ⟨h1, h2⟩ | ⟨l, u, h1, h2, hown⟩
  · exact .inl ⟨h1, h2⟩
  · exact .inr ⟨l, u, h1, h2, hm _ _ _ hown⟩

theorem operL_len (c : List UInt8) : (operL c).2.length ≤ 3 := by
  unfold operL
  by_cases h0 : (c == [99, 111, 110, 115, 116]) = true
  · rw [if_pos h0]; decide
  rw [if_neg h0]
  by_cases h1 : (c == [97, 100, 100]) = true
  · rw [if_pos h1]; decide
  rw [if_neg h1]
  by_cases h2 : (c == [115, 117, 98]) = true
  · rw [if_pos h2]; decide
  rw [if_neg h2]
  by_cases h3 : (c == [109, 117, 108]) = true
  · rw [if_pos h3]; decide
  rw [if_neg h3]
  by_cases h4 : (c == [100, 105, 118]) = true
  · rw [if_pos h4]; decide
  rw [if_neg h4]
  by_cases h5 : (c == [108, 101, 115, 115]) = true
  · rw [if_pos h5]; decide
  rw [if_neg h5]
  by_cases h6 : (c == [105, 102]) = true
  · rw [if_pos h6]; decide
  rw [if_neg h6]
  by_cases h7 : (c == [102, 98, 121]) = true
  · rw [if_pos h7]; decide
  rw [if_neg h7]
  by_cases h8 : (c == [119, 104, 101, 110]) = true
  · rw [if_pos h8]; decide
  rw [if_neg h8]
  by_cases h9 : (c == [109, 101, 114, 103, 101]) = true
  · rw [if_pos h9]; decide
  rw [if_neg h9]
  by_cases h10 : (c == [98, 117, 102, 102, 101, 114]) = true
  · rw [if_pos h10]; decide
  rw [if_neg h10]
  decide

theorem Reads.drew {w : World} {v : Value} {size n : Nat} {xs : List Value} (h : Reads w v size n xs) : Reads w.drew v size n xs := h

/-- A part of what can be read. -/
theorem Row.reads {w : World} {b off : Nat} {L : List (List UInt8)} (h : Row w b off (strs L)) (k m cap : Nat) (hk : k ≤ L.length) (hm : m = L.length - k) (hc : L.length ≤ cap) : Reads w (.slice (if cap = k then some ⟨b, off, none⟩ else some ⟨b, off + k, none⟩) m (cap - k)) 1 (L.drop k).length (strs (L.drop k)) := by
  subst hm
  refine ⟨by rw [strs_length]; simp, _, cap - k, by rw [List.length_drop], by rw [List.length_drop]; omega, ?_⟩
  by_cases hck : cap = k
  · exact .inl (by rw [List.length_drop]; omega)
  · right
    rw [if_neg hck]
    refine ⟨b, off + k, rfl, ?_⟩
    have := h.drop k (by rw [strs_length]; exact hk)
    simpa [strs] using this

set_option maxRecDepth 50000 in
set_option maxHeartbeats 1000000 in
theorem parse_short (L : List (List UInt8)) (v : Value) (w : World) (h : L.length < 2) (hv : Reads w v 1 L.length (strs L)) :
    Calls Try.prog 40 #[v] w fun e w' => Filled w.heap.size (parseL L) e w' ∧ Below w.heap.size w w' := by
  obtain ⟨_, p, cap, rfl, hcap, hrow⟩ := hv
  have HP : Hid (parseL L = none) := by
    show parseL L = none
    match L, h with
    | [], _ => rfl
    | [a], _ => rfl
    | a :: b :: r, h => simp at h; omega
  clear hrow
  go_enter Try.func40, Try.ntmps40
  go_wp2
  refine bodyPost_ret (v := .tuple #[.agg #[.int .i64 0, .int .i64 0, .string ⟨#[]⟩, .slice none 0 0, .int .i64 0, .string ⟨#[]⟩, .string ⟨#[]⟩], .bool false]) (by simp [results, Try.results40, go_sem]) rfl ⟨?_, ?_⟩
  · exact .inl ⟨HP.out, rfl⟩
  · exact F1_below w


set_option maxRecDepth 50000 in
set_option maxHeartbeats 1000000 in
theorem parse_long (a b : List UInt8) (r : List (List UInt8)) (blk off cap : Nat) (w : World) (hL : (a :: b :: r).length ≤ 1048576) (hLs : ∀ p ∈ a :: b :: r, p.length ≤ 1048576) (hcap : (a :: b :: r).length ≤ cap) (hr : Row w blk off (strs (a :: b :: r))) :
    Calls Try.prog 40 #[.slice (some ⟨blk, off, none⟩) (a :: b :: r).length cap] w fun e w' => Filled w.heap.size (parseL (a :: b :: r)) e w' ∧ Below w.heap.size w w' := by
  have hr0 := F1_r w
  have hrf := hr.below (F1_below w) hr.1
  have hlen : (a :: b :: r).length = r.length + 2 := by simp
  have c0 : w.cell? ⟨blk, off, none⟩ = some (.string (S a)) := by have := hr.2 0 (by simp [strs]); simpa [strs] using this
  have c1 : w.cell? ⟨blk, off + 1, none⟩ = some (.string (S b)) := by have := hr.2 1 (by simp [strs]); simpa [strs] using this
  have hblk : blk < w.heap.size := hr.1
  have hnw0 : w.heap.size ≠ blk := by omega
  have hta : (S a).toList = a := by rw [ByteArray.toList_eq, S_data]
  have htb : (S b).toList = b := by rw [ByteArray.toList_eq, S_data]
  have hsa : (S a).size ≤ 1048576 := by rw [S_size]; exact hLs a (by simp)
  have hsb : (S b).size ≤ 1048576 := by rw [S_size]; exact hLs b (by simp)
  obtain ⟨n, hn⟩ : ∃ n, n = (a :: b :: r).length := ⟨_, rfl⟩
  rw [hlen] at hn hL hcap
  rw [hlen, ← hn]
  rw [← hn] at hcap
  have hn2 : 2 ≤ n := by omega
  have HN : Hid (n = r.length + 2) := hn
  have hn1 : n ≤ 1048576 := by omega
  have hI0 : 0 < n := by omega
  have hI1 : (1 : Int) < (n : Int) := by omega
  have hI2 : (2 : Int) ≤ (n : Int) := by omega
  have hI3 : (n : Int) ≤ (cap : Int) := by omega
  have hI4 : (2 : Int) ≤ (cap : Int) := by omega
  clear hn hlen hL
  by_cases hin : a = [105, 110]
  · have HP : Hid (parseL (a :: b :: r) = ownL 1 b [119] r) := by show parseL _ = _; simp [parseL, hin]
    have g0 : ((S a).toList == [105, 110]) = true := by rw [hta]; simp [hin]
    have hrd := hrf.reads 2 (n - 2) cap (by simp) (by have := HN.out; simp; omega) (by have := HN.out; simp; omega)
    clear hin hta htb
    · obtain ⟨P, hP⟩ : ∃ P, (if cap = 2 then some (⟨blk, off, none⟩ : Addr) else some ⟨blk, off + 2, none⟩) = P := ⟨_, rfl⟩
      rw [hP] at hrd
      go_enter Try.func40, Try.ntmps40
      go_wp2
      go_region_held3 (fun w' => w'.cell? ⟨blk, off + 1, none⟩ = some (.string (S b))) (go_keep)
        (first | (go_at_call 57; refine (parseOwn_any 1 (S b) ⟨#[119]⟩ r _ _ hsb (by decide) (by have := HN.out; omega) (fun p hp => hLs p (by simp [hp])) (Reads.drew hrd)).mono ?_; rintro e w1 ⟨hF, hb1⟩; obtain ⟨n1, n2, nm, up, un, uc, n3, y1, y2, ok, rfl, HF⟩ := hF.gen; have hb1' : Below (F1 w).heap.size (F1 w) w1 := below_undrew (W := F1 w) hb1; have hr1 := hr0.below hb1' (by rw [F1_size]; omega); have d0 := hr1.c 0; have d1 := hr1.c 1; have d2 := hr1.c 2; have d3 := hr1.c 3; have d4 := hr1.c 4; have d5 := hr1.c 5; have d6 := hr1.c 6; simp only [lnCells, Ln.zero, List.getElem?_cons_zero, List.getElem?_cons_succ] at d0 d1 d2 d3 d4 d5 d6; have e0 := hr1.fz 0; have e1 := hr1.fz 1; have e2 := hr1.fz 2; have e3 := hr1.fz 3; have e4 := hr1.fz 4; have e5 := hr1.fz 5; have e6 := hr1.fz 6; have c1' : w1.cell? ⟨blk, off + 1, none⟩ = some (.string (S b)) := (by rw [hb1'.cell (p := ⟨blk, off + 1, none⟩) hrf.1, (F1_below w).cell (p := ⟨blk, off + 1, none⟩) hblk]; exact c1); clear hF hb1))
      go_wp2
      have hq := set7_blk hr1 (.int .i64 n1) (.int .i64 n2) (.string nm) (.slice up un uc) (.int .i64 n3) (.string y1) (.string y2)
      have q0 := hq 0; have q1 := hq 1; have q2 := hq 2; have q3 := hq 3; have q4 := hq 4; have q5 := hq 5; have q6 := hq 6
      simp only [set7, List.getElem?_cons_zero, List.getElem?_cons_succ] at q0 q1 q2 q3 q4 q5 q6
      refine bodyPost_ret (v := .tuple #[.agg #[.int .i64 n1, .int .i64 n2, .string nm, .slice up un uc, .int .i64 n3, .string y1, .string y2], .bool ok]) (by simp [results, Try.results40, go_sem, q0, q1, q2, q3, q4, q5, q6]) rfl ⟨?_, ?_⟩
      · rw [HP.out]
        exact HF.out.move fun v n xs h => own_mono (set7_own (r := w.heap.size) (by have := hb1'.size; rw [F1_size] at this; show w.heap.size < (F1 w).drew.heap.size; show w.heap.size < (F1 w).heap.size; rw [F1_size]; omega) _ _ _ _ _ _ _ h) (by show w.heap.size ≤ (F1 w).heap.size; rw [F1_size]; omega)
      · exact ((F1_below w).trans (hb1'.mono (by rw [F1_size]; omega))).trans (set7_below (Nat.le_refl _) _ _ _ _ _ _ _)
  have g0 : ((S a).toList == [105, 110]) = false := by rw [hta]; exact beq_eq_false_iff_ne.2 hin
  by_cases hout : a = [111, 117, 116]
  · have HP : Hid (parseL (a :: b :: r) = fillL { Ln.zero with kind := 13 } [97] (b :: r)) := by show parseL _ = _; simp [parseL, hout]
    have g1 : ((S a).toList == [111, 117, 116]) = true := by rw [hta]; simp [hout]
    have hrd := hrf.reads 1 (n - 1) cap (by simp) (by have := HN.out; simp; omega) (by have := HN.out; simp; omega)
    clear hin hta htb hout
    obtain ⟨P, hP⟩ : ∃ P, (if cap = 1 then some (⟨blk, off, none⟩ : Addr) else some ⟨blk, off + 1, none⟩) = P := ⟨_, rfl⟩
    rw [hP] at hrd
    go_enter Try.func40, Try.ntmps40
    go_wp2_with fail
    have hcall := fill_any { Ln.zero with kind := 13 } ⟨#[97]⟩ (b :: r) _ (F1 w) (by decide) (by have := HN.out; simp; omega) (fun p hp => hLs p (by simp at hp ⊢; exact .inr hp)) rfl hrd
    refine hcall.mono ?_
    rintro e w1 ⟨hF, hb1'⟩
    obtain ⟨n1, n2, nm, up, un, uc, n3, y1, y2, ok, rfl, HF⟩ := hF.gen
    have hr1 := hr0.below hb1' (by rw [F1_size]; omega)
    have d0 := hr1.c 0; have d1 := hr1.c 1; have d2 := hr1.c 2; have d3 := hr1.c 3; have d4 := hr1.c 4; have d5 := hr1.c 5; have d6 := hr1.c 6
    simp only [lnCells, Ln.zero, List.getElem?_cons_zero, List.getElem?_cons_succ] at d0 d1 d2 d3 d4 d5 d6
    have e0 := hr1.fz 0; have e1 := hr1.fz 1; have e2 := hr1.fz 2; have e3 := hr1.fz 3; have e4 := hr1.fz 4; have e5 := hr1.fz 5; have e6 := hr1.fz 6
    clear hF hcall
    go_wp2
    have hq := set7_blk hr1 (.int .i64 n1) (.int .i64 n2) (.string nm) (.slice up un uc) (.int .i64 n3) (.string y1) (.string y2)
    have q0 := hq 0; have q1 := hq 1; have q2 := hq 2; have q3 := hq 3; have q4 := hq 4; have q5 := hq 5; have q6 := hq 6
    simp only [set7, List.getElem?_cons_zero, List.getElem?_cons_succ] at q0 q1 q2 q3 q4 q5 q6
    refine bodyPost_ret (v := .tuple #[.agg #[.int .i64 n1, .int .i64 n2, .string nm, .slice up un uc, .int .i64 n3, .string y1, .string y2], .bool ok]) (by simp [results, Try.results40, go_sem, q0, q1, q2, q3, q4, q5, q6]) rfl ⟨?_, ?_⟩
    · rw [HP.out]
      exact HF.out.move fun v n xs h => own_mono (set7_own (r := w.heap.size) (by show w.heap.size < (F1 w).heap.size; rw [F1_size]; omega) _ _ _ _ _ _ _ h) (by show w.heap.size ≤ (F1 w).heap.size; rw [F1_size]; omega)
    · exact ((F1_below w).trans (hb1'.mono (by rw [F1_size]; omega))).trans (set7_below (Nat.le_refl _) _ _ _ _ _ _ _)
  have g1 : ((S a).toList == [111, 117, 116]) = false := by rw [hta]; exact beq_eq_false_iff_ne.2 hout
  by_cases h3 : n < 3
  · have HP : Hid (parseL (a :: b :: r) = none) := by
      show parseL _ = _
      have : r = [] := List.length_eq_zero_iff.1 (by have := HN.out; omega)
      subst this
      simp [parseL, hin, hout]
    clear hin hta htb hout
    go_enter Try.func40, Try.ntmps40
    go_wp2
    refine bodyPost_ret (v := .tuple #[.agg #[.int .i64 0, .int .i64 0, .string ⟨#[]⟩, .slice none 0 0, .int .i64 0, .string ⟨#[]⟩, .string ⟨#[]⟩], .bool false]) (by simp [results, Try.results40, go_sem]) rfl ⟨?_, ?_⟩
    · exact .inl ⟨HP.out, rfl⟩
    · exact F1_below w
  by_cases heq : b = [61]
  case neg =>
    have HP : Hid (parseL (a :: b :: r) = none) := by
      show parseL _ = _
      simp only [parseL, beq_eq_false_iff_ne.2 hin, beq_eq_false_iff_ne.2 hout, beq_eq_false_iff_ne.2 heq]
      cases r <;> rfl
    have g2 : ((S b).toList == [61]) = false := by rw [htb]; exact beq_eq_false_iff_ne.2 heq
    have g3 : ((S b).toList != [61]) = true := by rw [htb]; simpa using heq
    clear hin hta htb hout heq
    go_enter Try.func40, Try.ntmps40
    go_wp2
    refine bodyPost_ret (v := .tuple #[.agg #[.int .i64 0, .int .i64 0, .string ⟨#[]⟩, .slice none 0 0, .int .i64 0, .string ⟨#[]⟩, .string ⟨#[]⟩], .bool false]) (by simp [results, Try.results40, go_sem]) rfl ⟨?_, ?_⟩
    · exact .inl ⟨HP.out, rfl⟩
    · exact F1_below w
  have g2 : ((S b).toList == [61]) = true := by rw [htb]; simpa using heq
  have g3 : ((S b).toList != [61]) = false := by rw [htb]; simpa using heq
  obtain ⟨c, r', rfl⟩ : ∃ c r', r = c :: r' := by
    cases r with
    | nil => have := HN.out; simp at this; omega
    | cons c r' => exact ⟨c, r', rfl⟩
  have c2 : w.cell? ⟨blk, off + 2, none⟩ = some (.string (S c)) := by have := hr.2 2 (by simp [strs]); simpa [strs] using this
  have hI5 : (2 : Int) < (n : Int) := by omega
  have hI6 : (3 : Int) ≤ (n : Int) := by omega
  have hI7 : (3 : Int) ≤ (cap : Int) := by omega
  have hP0 : parseL (a :: b :: c :: r') = if (operL c).1 == 0 then none else ownL (operL c).1 a (operL c).2 r' := by
    simp only [parseL, beq_eq_false_iff_ne.2 hin, beq_eq_false_iff_ne.2 hout, heq]; rfl
  have HP0 : Hid (parseL (a :: b :: c :: r') = if (operL c).1 == 0 then none else ownL (operL c).1 a (operL c).2 r') := hP0
  have hrd := hrf.reads 3 (n - 3) cap (by simp) (by have := HN.out; simp at this ⊢; omega) (by have := HN.out; simp at this ⊢; omega)
  clear hin hta htb hout heq hP0
  obtain ⟨P, hP⟩ : ∃ P, (if cap = 3 then some (⟨blk, off, none⟩ : Addr) else some ⟨blk, off + 3, none⟩) = P := ⟨_, rfl⟩
  rw [hP] at hrd
  go_enter Try.func40, Try.ntmps40
  go_wp2_with (go_at_call 59; refine (operation_any (S c) _).mono ?_; rintro e w1 ⟨⟨k, sh, rfl, hop⟩, hw1⟩; subst w1; have HOP : Hid (operL c = (k, sh.data.toList)) := hop; clear hop; by_cases hk0 : (k : Int) = 0)
  · have HP : Hid (parseL (a :: b :: c :: r') = none) := by
      show parseL _ = _
      rw [HP0.out, HOP.out]
      have : k = 0 := by omega
      subst this; rfl
    refine bodyPost_ret (v := .tuple #[.agg #[.int .i64 0, .int .i64 0, .string ⟨#[]⟩, .slice none 0 0, .int .i64 0, .string ⟨#[]⟩, .string ⟨#[]⟩], .bool false]) (by simp [results, Try.results40, go_sem]) rfl ⟨?_, ?_⟩
    · exact .inl ⟨HP.out, rfl⟩
    · exact F1_below w
  · have HP : Hid (parseL (a :: b :: c :: r') = ownL k a sh.data.toList r') := by
      show parseL _ = _
      rw [HP0.out, HOP.out]
      have : (k == 0) = false := beq_eq_false_iff_ne.2 (by intro h; apply hk0; omega)
      simp [this]
    have hsh : sh.size ≤ 1048576 := by
      have := operL_len c
      rw [HOP.out] at this
      have h2 : sh.data.toList.length = sh.size := by simp
      simp only at this
      omega
    go_region_held3 (fun w' => w'.cell? ⟨blk, off, none⟩ = some (.string (S a))) (go_keep)
      (first | (go_at_call 57; refine (parseOwn_any k (S a) sh r' _ _ hsa hsh (by have := HN.out; simp at this; omega) (fun p hp => hLs p (by simp [hp])) (Reads.drew hrd)).mono ?_; rintro e w1 ⟨hF, hb1⟩; obtain ⟨n1, n2, nm, up, un, uc, n3, y1, y2, ok, rfl, HF⟩ := hF.gen; have hb1' : Below (F1 w).heap.size (F1 w) w1 := below_undrew (W := F1 w) hb1; have hr1 := hr0.below hb1' (by rw [F1_size]; omega); have d0 := hr1.c 0; have d1 := hr1.c 1; have d2 := hr1.c 2; have d3 := hr1.c 3; have d4 := hr1.c 4; have d5 := hr1.c 5; have d6 := hr1.c 6; simp only [lnCells, Ln.zero, List.getElem?_cons_zero, List.getElem?_cons_succ] at d0 d1 d2 d3 d4 d5 d6; have e0 := hr1.fz 0; have e1 := hr1.fz 1; have e2 := hr1.fz 2; have e3 := hr1.fz 3; have e4 := hr1.fz 4; have e5 := hr1.fz 5; have e6 := hr1.fz 6; have c1' : w1.cell? ⟨blk, off, none⟩ = some (.string (S a)) := (by rw [hb1'.cell (p := ⟨blk, off, none⟩) hrf.1, (F1_below w).cell (p := ⟨blk, off, none⟩) hblk]; exact c0); clear hF hb1))
    go_wp2
    have hq := set7_blk hr1 (.int .i64 n1) (.int .i64 n2) (.string nm) (.slice up un uc) (.int .i64 n3) (.string y1) (.string y2)
    have q0 := hq 0; have q1 := hq 1; have q2 := hq 2; have q3 := hq 3; have q4 := hq 4; have q5 := hq 5; have q6 := hq 6
    simp only [set7, List.getElem?_cons_zero, List.getElem?_cons_succ] at q0 q1 q2 q3 q4 q5 q6
    refine bodyPost_ret (v := .tuple #[.agg #[.int .i64 n1, .int .i64 n2, .string nm, .slice up un uc, .int .i64 n3, .string y1, .string y2], .bool ok]) (by simp [results, Try.results40, go_sem, q0, q1, q2, q3, q4, q5, q6]) rfl ⟨?_, ?_⟩
    · rw [HP.out]
      exact HF.out.move fun v n xs h => own_mono (set7_own (r := w.heap.size) (by show w.heap.size < (F1 w).heap.size; rw [F1_size]; omega) _ _ _ _ _ _ _ h) (by show w.heap.size ≤ (F1 w).heap.size; rw [F1_size]; omega)
    · exact ((F1_below w).trans (hb1'.mono (by rw [F1_size]; omega))).trans (set7_below (Nat.le_refl _) _ _ _ _ _ _ _)

theorem parse_any (L : List (List UInt8)) (v : Value) (w : World) (hL : L.length ≤ 1048576) (hLs : ∀ p ∈ L, p.length ≤ 1048576) (hv : Reads w v 1 L.length (strs L)) :
    Calls Try.prog 40 #[v] w fun e w' => Filled w.heap.size (parseL L) e w' ∧ Below w.heap.size w w' := by
  match L, hL, hLs, hv with
  | [], _, _, hv => exact parse_short [] v w (by simp) hv
  | [a], _, _, hv => exact parse_short [a] v w (by simp) hv
  | a :: b :: r, hL, hLs, hv =>
    obtain ⟨_, p, cap, rfl, hcap, hrow⟩ := hv
    obtain ⟨blk, off, rfl, hr⟩ : ∃ b' off, p = some ⟨b', off, none⟩ ∧ Row w b' off (strs (a :: b :: r)) := by
      rcases hrow with h | h
      · simp at h
      · exact h
    exact parse_long a b r blk off cap w hL hLs hcap hr
end Go.Proofs.Ytfbkjopidjojeab
