/-
  Walks over package source: fill, operation, parseOwn.
-/
import Derived.Test.YtfbkjopidjojeabCf
import Derived.Deep.RegionHeld3
namespace Go.Proofs.Ytfbkjopidjojeab
open Go.RowKit

theorem keep_undrew {b B : Nat} {W w1 : World} (h : Keep b B W.drew w1) : Keep b B W w1 := ⟨h.os, h.tape, h.output, h.size, h.block⟩
theorem LnB.drew {w : World} {b : Nat} {l : Ln} {u : Value} (h : LnB w b l u) : LnB w.drew b l u := h

theorem own_mono {w : World} {B B' : Nat} {e : TypeId} {size : Nat} {v : Value} {n : Nat} {xs : List Value} (h : w.ownsRow B e size v n xs) (hb : B' ≤ B) : w.ownsRow B' e size v n xs :=
  ⟨h.1, h.2.imp id fun ⟨g, cap, cur, h1, h2, h3⟩ => ⟨g, cap, cur, h1, Nat.le_trans hb h2, h3⟩⟩
/-- Seven cells are written. -/
def set7 (w : World) (r : Nat) (v0 v1 v2 v3 v4 v5 v6 : Value) : World := ((((((w.setCell ⟨r, 0, none⟩ v0).setCell ⟨r, 1, none⟩ v1).setCell ⟨r, 2, none⟩ v2).setCell ⟨r, 3, none⟩ v3).setCell ⟨r, 4, none⟩ v4).setCell ⟨r, 5, none⟩ v5).setCell ⟨r, 6, none⟩ v6
theorem set7_blk {w : World} {r : Nat} {l : Ln} {u : Value} (h : LnB w r l u) (v0 v1 v2 v3 v4 v5 v6 : Value) (j : Nat) : (set7 w r v0 v1 v2 v3 v4 v5 v6).cell? ⟨r, j, none⟩ = [v0, v1, v2, v3, v4, v5, v6][j]? := by
  have := blk_set (j := 6) (blk_set (j := 5) (blk_set (j := 4) (blk_set (j := 3) (blk_set (j := 2) (blk_set (j := 1) (blk_set (j := 0) h v0) v1) v2) v3) v4) v5) v6
  unfold set7
  rw [cell_of_row _ r j _ _ _ this]
  simp [lnCells]
theorem set7_below {w : World} {r B : Nat} (hr : B ≤ r) (v0 v1 v2 v3 v4 v5 v6 : Value) : Below B w (set7 w r v0 v1 v2 v3 v4 v5 v6) :=
  ((((((((Below.refl B w).setCell hr _).setCell hr _).setCell hr _).setCell hr _).setCell hr _).setCell hr _).setCell hr _)
theorem set7_own {w : World} {r B : Nat} (hr : r < B) (v0 v1 v2 v3 v4 v5 v6 : Value) {e : TypeId} {size : Nat} {v : Value} {n : Nat} {xs : List Value} (h : w.ownsRow B e size v n xs) : (set7 w r v0 v1 v2 v3 v4 v5 v6).ownsRow B e size v n xs :=
  ownsRow_setCell_below (ownsRow_setCell_below (ownsRow_setCell_below (ownsRow_setCell_below (ownsRow_setCell_below (ownsRow_setCell_below (ownsRow_setCell_below h hr _) hr _) hr _) hr _) hr _) hr _) hr _

/-- What fill gives. -/
def Filled (B : Nat) (o : Option Ln) (e : Ending) (w' : World) : Prop :=
  (o = none ∧ e = .returned (.tuple #[.agg #[.int .i64 0, .int .i64 0, .string ⟨#[]⟩, .slice none 0 0, .int .i64 0, .string ⟨#[]⟩, .string ⟨#[]⟩], .bool false])) ∨
  ∃ l u, o = some l ∧ e = .returned (.tuple #[.agg #[.int .i64 l.no, .int .i64 l.kind, .string (S l.name), u, .int .i64 l.num, .string (bs l.wd.1), .string (bs l.wd.2)], .bool true]) ∧ w'.ownsRow B 9 1 u l.uses.length (strs l.uses)

theorem fillL_len {l : Ln} {s : List UInt8} {ps : List (List UInt8)} (h : s.length ≠ ps.length) : fillL l s ps = none := by
  induction s generalizing l ps with
  | nil => cases ps with
    | nil => simp at h
    | cons p ps => rfl
  | cons c s ih => cases ps with
    | nil => rfl
    | cons p ps =>
      unfold fillL
      split
      · rfl
      · exact ih (by simpa using h)

/-- How far fill has come. -/
def FillAt (l0 l : Ln) (s : List UInt8) (L : List (List UInt8)) (k : Nat) : Prop := fillL l0 s L = fillL l (s.drop k) (L.drop k) ∧ l.uses.length ≤ k
theorem FillAt.step {l0 l : Ln} {s : List UInt8} {L : List (List UInt8)} {k : Nat} (h : FillAt l0 l s L k) (h1 : k < s.length) (h2 : k < L.length) :
    (takeL l s[k] L[k] = none → fillL l0 s L = none) ∧ ∀ l', takeL l s[k] L[k] = some l' → FillAt l0 l' s L (k + 1) := by
  obtain ⟨h, hu⟩ := h
  rw [List.drop_eq_getElem_cons h1, List.drop_eq_getElem_cons h2, fillL] at h
  refine ⟨fun e => by rw [h, e], fun l' e => ⟨by rw [h, e], ?_⟩⟩
  unfold takeL at e
  split at e
  · cases hn : numL L[k] with
    | none => rw [hn] at e; cases e
    | some n => rw [hn] at e; cases e; show l.uses.length ≤ _; omega
  · split at e
    · cases hn : wdL L[k] with
      | none => rw [hn] at e; cases e
      | some n => rw [hn] at e; cases e; show l.uses.length ≤ _; omega
    · split at e
      · cases e; simp; omega
      · cases e

/-- The world in which fill begins. -/
def F2 (w : World) (l : Ln) : World := (w.alloc (Obj.cells #[.int .i64 l.no, .int .i64 l.kind, .string (S l.name), .slice none 0 0, .int .i64 l.num, .string (bs l.wd.1), .string (bs l.wd.2)] 85)).alloc (Obj.cells #[.int .i64 0, .int .i64 0, .string ⟨#[]⟩, .slice none 0 0, .int .i64 0, .string ⟨#[]⟩, .string ⟨#[]⟩] 85)
theorem F2_size (w : World) (l : Ln) : (F2 w l).heap.size = w.heap.size + 1 + 1 := by simp [F2]
theorem F2_below (w : World) (l : Ln) : Below w.heap.size w (F2 w l) := ((Below.refl w.heap.size w).alloc (Nat.le_refl _) _).alloc (by simp) _
theorem F2_ln (w : World) (l : Ln) : LnB (F2 w l) w.heap.size l (.slice none 0 0) := by
  unfold LnB F2
  rw [Below.heap_alloc _ _ _ (by simp), heap_alloc_new]
  rfl
theorem F2_r (w : World) (l : Ln) : LnB (F2 w l) (w.heap.size + 1) Ln.zero (.slice none 0 0) := by
  have := heap_alloc_new (w.alloc (Obj.cells #[.int .i64 l.no, .int .i64 l.kind, .string (S l.name), .slice none 0 0, .int .i64 l.num, .string (bs l.wd.1), .string (bs l.wd.2)] 85)) (Obj.cells #[.int .i64 0, .int .i64 0, .string ⟨#[]⟩, .slice none 0 0, .int .i64 0, .string ⟨#[]⟩, .string ⟨#[]⟩] 85)
  rw [show (w.alloc (Obj.cells #[.int .i64 l.no, .int .i64 l.kind, .string (S l.name), .slice none 0 0, .int .i64 l.num, .string (bs l.wd.1), .string (bs l.wd.2)] 85)).heap.size = w.heap.size + 1 by simp] at this
  exact this

set_option maxRecDepth 50000 in
set_option maxHeartbeats 1000000 in
theorem fill_any (l : Ln) (s : ByteArray) (L : List (List UInt8)) (v : Value) (w : World) (hs : s.size ≤ 1048576) (_hL : L.length ≤ 1048576) (hLs : ∀ p ∈ L, p.length ≤ 1048576) (hu : l.uses = []) (hv : Reads w v 1 L.length (strs L)) :
    Calls Try.prog 58 #[.agg #[.int .i64 l.no, .int .i64 l.kind, .string (S l.name), .slice none 0 0, .int .i64 l.num, .string (bs l.wd.1), .string (bs l.wd.2)], .string s, v] w fun e w' => Filled w.heap.size (fillL l s.data.toList L) e w' ∧ Below w.heap.size w w' := by
  obtain ⟨_, p, cap, rfl, hcap, hrow⟩ := hv
  have hl : s.data.toList.length = s.size := by simp
  have HS : Hid (s.data.toList.length = s.size) := hl
  clear hl
  by_cases hne : L.length = s.size
  · go_enter Try.func58, Try.ntmps58
    go_wp2
    go_loopw [8] (fun i wr => ∃ (k : Nat) (l' : Ln) (u : Value), i = .int .i64 k ∧ k ≤ L.length ∧ Hid (FillAt l l' s.data.toList L k) ∧ LnB wr w.heap.size l' u ∧ wr.ownsRow (w.heap.size + 1 + 1) 9 1 u l'.uses.length (strs l'.uses) ∧ Keep w.heap.size (w.heap.size + 1 + 1) (F2 w l) wr)
      (fun i _ => L.length - (intOf i).toNat)
    case atStart => exact ⟨0, l, .slice none 0 0, rfl, Nat.zero_le _, ⟨by simp, by simp [hu]⟩, F2_ln w l, by rw [hu]; exact World.ownsRow_nil _ _ _ _, Keep.of (Below.refl _ _)⟩
    case round =>
      obtain ⟨k, l', u, rfl, hk, HF, hln, hown, hkeep⟩ := hrel
      have hsz := hkeep.size
      have hne1 : L.length ≤ s.size := by omega
      have hne2 : s.size ≤ L.length := by omega
      clear hne
      rw [F2_size] at hsz
      have hcr := (F2_r w l)
      have hrr : LnB wr (w.heap.size + 1) Ln.zero (.slice none 0 0) := by unfold LnB; rw [hkeep.block (w.heap.size + 1) (by omega) (by omega)]; exact hcr
      clear hcr
      by_cases hlt : k < L.length
      · obtain ⟨b, off, rfl, hr⟩ : ∃ b off, p = some ⟨b, off, none⟩ ∧ Row w b off (strs L) := by
          rcases hrow with h | h
          · omega
          · exact h
        have hbel : Below w.heap.size w wr := (F2_below w l).trans (hkeep.below (by omega))
        have hc : wr.cell? ⟨b, off + k, none⟩ = some (.string (S L[k])) := by
          rw [(hr.below hbel hr.1).2 k (by rw [strs_length]; exact hlt), strs_get hlt]
        have hks : k < s.size := by omega
        have hkl : k < s.data.toList.length := by rw [HS.out]; exact hks
        have hstep := HF.out.step hkl hlt
        rw [get_toList _ _ hks] at hstep
        have HSt : Hid ((takeL l' s[k] L[k] = none → fillL l s.data.toList L = none) ∧ ∀ l'', takeL l' s[k] L[k] = some l'' → FillAt l l'' s.data.toList L (k + 1)) := hstep
        have hul : l'.uses.length ≤ 1048576 := by have := HF.out.2; omega
        have hps : (S L[k]).size ≤ 1048576 := by rw [S_size]; exact hLs _ (List.getElem_mem _)
        clear hrow hstep
        go_wp2
        go_region_held3 (fun w' => w'.cell? ⟨b, off + k, none⟩ = some (.string (S L[k]))) (go_keep)
          (first | (go_at_call 77; refine (take_any l' u s[k] (S L[k]) w.heap.size (w.heap.size + 1 + 1) _ hps hln.drew (by omega) hsz hown.drew hul).mono ?_; rintro e w1 ⟨⟨hT, hT2⟩, hk1⟩; subst hT; have hk1' := keep_undrew hk1; have hc1 : w1.cell? ⟨b, off + k, none⟩ = some (.string (S L[k])) := (by rw [(hk1'.below (by omega)).cell (p := ⟨b, off + k, none⟩) hr.1]; exact hc)))
        have hr1 : LnB w1 (w.heap.size + 1) Ln.zero (.slice none 0 0) := by unfold LnB; rw [hk1'.block (w.heap.size + 1) (by omega) (by omega)]; exact hrr
        have hT3 : ∀ x, takeL l' s[k] L[k] = some x → ∃ u', LnB w1 w.heap.size x u' ∧ w1.ownsRow (w.heap.size + 1 + 1) 9 1 u' x.uses.length (strs x.uses) := hT2
        have HT3 : Hid (∀ x, takeL l' s[k] L[k] = some x → ∃ u', LnB w1 w.heap.size x u' ∧ w1.ownsRow (w.heap.size + 1 + 1) 9 1 u' x.uses.length (strs x.uses)) := hT3
        have hkk := hkeep.trans hk1'
        clear hT2 hT3 hk1 hc1 hown hln
        rw [S_data]
        cases ho : takeL l' s[k] L[k] with
        | none =>
          have hno := HSt.out.1 ho
          have d0 := hr1.c 0; have d1 := hr1.c 1; have d2 := hr1.c 2; have d3 := hr1.c 3; have d4 := hr1.c 4; have d5 := hr1.c 5; have d6 := hr1.c 6
          simp only [lnCells, List.getElem?_cons_zero, List.getElem?_cons_succ] at d0 d1 d2 d3 d4 d5 d6
          have e0 := hr1.fz 0; have e1 := hr1.fz 1; have e2 := hr1.fz 2; have e3 := hr1.fz 3; have e4 := hr1.fz 4; have e5 := hr1.fz 5; have e6 := hr1.fz 6
          have HNO : Hid (fillL l s.data.toList L = none) := hno
          clear hno
          go_wp2
          have hq := set7_blk hr1 (.int .i64 0) (.int .i64 0) (.string ⟨#[]⟩) (.slice none 0 0) (.int .i64 0) (.string ⟨#[]⟩) (.string ⟨#[]⟩)
          have q0 := hq 0; have q1 := hq 1; have q2 := hq 2; have q3 := hq 3; have q4 := hq 4; have q5 := hq 5; have q6 := hq 6
          simp only [set7, List.getElem?_cons_zero, List.getElem?_cons_succ] at q0 q1 q2 q3 q4 q5 q6
          refine bodyPost_ret (v := .tuple #[.agg #[.int .i64 0, .int .i64 0, .string ⟨#[]⟩, .slice none 0 0, .int .i64 0, .string ⟨#[]⟩, .string ⟨#[]⟩], .bool false]) (by simp [results, Try.results58, go_sem, q0, q1, q2, q3, q4, q5, q6]) rfl ⟨?_, ?_⟩
          · exact .inl ⟨HNO.out, rfl⟩
          · exact ((F2_below w l).trans (hkk.below (by omega))).trans (set7_below (by omega) _ _ _ _ _ _ _)
        | some l2 =>
          have HF2 := HSt.out.2 l2 ho
          have HF3 : Hid (FillAt l l2 s.data.toList L (k + 1)) := HF2
          obtain ⟨u2, hl2, hown2⟩ := HT3.out l2 ho
          clear HF2 ho
          go_wp2
          go_roundw
          case rel => exact ⟨k + 1, l2, u2, by go_num, by omega, HF3, hl2, hown2, hkk⟩
          case measure => simp [intOf]; omega
      · have hke : k = L.length := by omega
        have hend : fillL l s.data.toList L = some l' := by
          rw [HF.out.1, hke, List.drop_of_length_le (by rw [HS.out]; omega), List.drop_of_length_le (Nat.le_refl _)]; rfl
        have HEND : Hid (fillL l s.data.toList L = some l') := hend
        have d0 := hrr.c 0; have d1 := hrr.c 1; have d2 := hrr.c 2; have d3 := hrr.c 3; have d4 := hrr.c 4; have d5 := hrr.c 5; have d6 := hrr.c 6
        have b0 := hln.c 0; have b1 := hln.c 1; have b2 := hln.c 2; have b3 := hln.c 3; have b4 := hln.c 4; have b5 := hln.c 5; have b6 := hln.c 6
        simp only [lnCells, List.getElem?_cons_zero, List.getElem?_cons_succ] at d0 d1 d2 d3 d4 d5 d6 b0 b1 b2 b3 b4 b5 b6
        have e0 := hrr.fz 0; have e1 := hrr.fz 1; have e2 := hrr.fz 2; have e3 := hrr.fz 3; have e4 := hrr.fz 4; have e5 := hrr.fz 5; have e6 := hrr.fz 6
        obtain ⟨up, un, uc, hu'⟩ : ∃ up un uc, u = .slice up un uc := by
          rcases hown.2 with ⟨h, _⟩ | ⟨g, cap, cur, h, _⟩
          · exact ⟨_, _, _, h⟩
          · exact ⟨_, _, _, h⟩
        subst hu'
        clear hend hrow
        go_wp2
        have hq := set7_blk hrr (.int .i64 l'.no) (.int .i64 l'.kind) (.string (S l'.name)) (.slice up un uc) (.int .i64 l'.num) (.string (bs l'.wd.1)) (.string (bs l'.wd.2))
        have q0 := hq 0; have q1 := hq 1; have q2 := hq 2; have q3 := hq 3; have q4 := hq 4; have q5 := hq 5; have q6 := hq 6
        simp only [set7, List.getElem?_cons_zero, List.getElem?_cons_succ] at q0 q1 q2 q3 q4 q5 q6
        refine bodyPost_ret (v := .tuple #[.agg #[.int .i64 l'.no, .int .i64 l'.kind, .string (S l'.name), .slice up un uc, .int .i64 l'.num, .string (bs l'.wd.1), .string (bs l'.wd.2)], .bool true]) (by simp [results, Try.results58, go_sem, q0, q1, q2, q3, q4, q5, q6]) rfl ⟨?_, ?_⟩
        · exact .inr ⟨l', _, HEND.out, rfl, own_mono (set7_own (r := w.heap.size + 1) (by omega) _ _ _ _ _ _ _ hown) (by omega)⟩
        · exact ((F2_below w l).trans (hkeep.below (by omega))).trans (set7_below (by omega) _ _ _ _ _ _ _)
  · have hno : fillL l s.data.toList L = none := fillL_len (by rw [HS.out]; omega)
    have HNO : Hid (fillL l s.data.toList L = none) := hno
    have hcr := F2_r w l
    clear hno hrow
    go_enter Try.func58, Try.ntmps58
    go_wp2
    have q0 := hcr.c 0; have q1 := hcr.c 1; have q2 := hcr.c 2; have q3 := hcr.c 3; have q4 := hcr.c 4; have q5 := hcr.c 5; have q6 := hcr.c 6
    simp only [lnCells, F2, Ln.zero, List.getElem?_cons_zero, List.getElem?_cons_succ] at q0 q1 q2 q3 q4 q5 q6
    refine bodyPost_ret (v := .tuple #[.agg #[.int .i64 0, .int .i64 0, .string ⟨#[]⟩, .slice none 0 0, .int .i64 0, .string ⟨#[]⟩, .string ⟨#[]⟩], .bool false]) (by simp [results, Try.results58, go_sem]) rfl ⟨?_, ?_⟩
    · exact .inl ⟨HNO.out, rfl⟩
    · exact F2_below w l

/-- What operation gives. -/
def OperIs (l : List UInt8) (e : Ending) : Prop := ∃ (k : Nat) (sh : ByteArray), e = .returned (.tuple #[.int .i64 k, .string sh]) ∧ operL l = (k, sh.data.toList)

set_option maxRecDepth 50000 in
set_option maxHeartbeats 1000000 in
theorem operation_any (s : ByteArray) (w : World) :
    Calls Try.prog 59 #[.string s] w fun e w' => OperIs s.data.toList e ∧ w' = w := by
  have hlt : s.toList = s.data.toList := ByteArray.toList_eq _
  by_cases h0 : s.data.toList = [99, 111, 110, 115, 116]
  · have hs : s = ⟨#[99, 111, 110, 115, 116]⟩ := by rw [← S_of s, h0]; rfl
    subst hs
    clear hlt h0
    go_enter Try.func59, Try.ntmps59
    go_wp2
    go_ret2
    exact ⟨⟨_, _, rfl, rfl⟩, rfl⟩
  by_cases h1 : s.data.toList = [97, 100, 100]
  · have hs : s = ⟨#[97, 100, 100]⟩ := by rw [← S_of s, h1]; rfl
    subst hs
    clear hlt h1 h0
    go_enter Try.func59, Try.ntmps59
    go_wp2
    go_ret2
    exact ⟨⟨_, _, rfl, rfl⟩, rfl⟩
  by_cases h2 : s.data.toList = [115, 117, 98]
  · have hs : s = ⟨#[115, 117, 98]⟩ := by rw [← S_of s, h2]; rfl
    subst hs
    clear hlt h2 h0 h1
    go_enter Try.func59, Try.ntmps59
    go_wp2
    go_ret2
    exact ⟨⟨_, _, rfl, rfl⟩, rfl⟩
  by_cases h3 : s.data.toList = [109, 117, 108]
  · have hs : s = ⟨#[109, 117, 108]⟩ := by rw [← S_of s, h3]; rfl
    subst hs
    clear hlt h3 h0 h1 h2
    go_enter Try.func59, Try.ntmps59
    go_wp2
    go_ret2
    exact ⟨⟨_, _, rfl, rfl⟩, rfl⟩
  by_cases h4 : s.data.toList = [100, 105, 118]
  · have hs : s = ⟨#[100, 105, 118]⟩ := by rw [← S_of s, h4]; rfl
    subst hs
    clear hlt h4 h0 h1 h2 h3
    go_enter Try.func59, Try.ntmps59
    go_wp2
    go_ret2
    exact ⟨⟨_, _, rfl, rfl⟩, rfl⟩
  by_cases h5 : s.data.toList = [108, 101, 115, 115]
  · have hs : s = ⟨#[108, 101, 115, 115]⟩ := by rw [← S_of s, h5]; rfl
    subst hs
    clear hlt h5 h0 h1 h2 h3 h4
    go_enter Try.func59, Try.ntmps59
    go_wp2
    go_ret2
    exact ⟨⟨_, _, rfl, rfl⟩, rfl⟩
  by_cases h6 : s.data.toList = [105, 102]
  · have hs : s = ⟨#[105, 102]⟩ := by rw [← S_of s, h6]; rfl
    subst hs
    clear hlt h6 h0 h1 h2 h3 h4 h5
    go_enter Try.func59, Try.ntmps59
    go_wp2
    go_ret2
    exact ⟨⟨_, _, rfl, rfl⟩, rfl⟩
  by_cases h7 : s.data.toList = [102, 98, 121]
  · have hs : s = ⟨#[102, 98, 121]⟩ := by rw [← S_of s, h7]; rfl
    subst hs
    clear hlt h7 h0 h1 h2 h3 h4 h5 h6
    go_enter Try.func59, Try.ntmps59
    go_wp2
    go_ret2
    exact ⟨⟨_, _, rfl, rfl⟩, rfl⟩
  by_cases h8 : s.data.toList = [119, 104, 101, 110]
  · have hs : s = ⟨#[119, 104, 101, 110]⟩ := by rw [← S_of s, h8]; rfl
    subst hs
    clear hlt h8 h0 h1 h2 h3 h4 h5 h6 h7
    go_enter Try.func59, Try.ntmps59
    go_wp2
    go_ret2
    exact ⟨⟨_, _, rfl, rfl⟩, rfl⟩
  by_cases h9 : s.data.toList = [109, 101, 114, 103, 101]
  · have hs : s = ⟨#[109, 101, 114, 103, 101]⟩ := by rw [← S_of s, h9]; rfl
    subst hs
    clear hlt h9 h0 h1 h2 h3 h4 h5 h6 h7 h8
    go_enter Try.func59, Try.ntmps59
    go_wp2
    go_ret2
    exact ⟨⟨_, _, rfl, rfl⟩, rfl⟩
  by_cases h10 : s.data.toList = [98, 117, 102, 102, 101, 114]
  · have hs : s = ⟨#[98, 117, 102, 102, 101, 114]⟩ := by rw [← S_of s, h10]; rfl
    subst hs
    clear hlt h10 h0 h1 h2 h3 h4 h5 h6 h7 h8 h9
    go_enter Try.func59, Try.ntmps59
    go_wp2
    go_ret2
    exact ⟨⟨_, _, rfl, rfl⟩, rfl⟩
  have g0 : (s.toList == [99, 111, 110, 115, 116]) = false := by rw [hlt]; exact beq_eq_false_iff_ne.2 h0
  have g1 : (s.toList == [97, 100, 100]) = false := by rw [hlt]; exact beq_eq_false_iff_ne.2 h1
  have g2 : (s.toList == [115, 117, 98]) = false := by rw [hlt]; exact beq_eq_false_iff_ne.2 h2
  have g3 : (s.toList == [109, 117, 108]) = false := by rw [hlt]; exact beq_eq_false_iff_ne.2 h3
  have g4 : (s.toList == [100, 105, 118]) = false := by rw [hlt]; exact beq_eq_false_iff_ne.2 h4
  have g5 : (s.toList == [108, 101, 115, 115]) = false := by rw [hlt]; exact beq_eq_false_iff_ne.2 h5
  have g6 : (s.toList == [105, 102]) = false := by rw [hlt]; exact beq_eq_false_iff_ne.2 h6
  have g7 : (s.toList == [102, 98, 121]) = false := by rw [hlt]; exact beq_eq_false_iff_ne.2 h7
  have g8 : (s.toList == [119, 104, 101, 110]) = false := by rw [hlt]; exact beq_eq_false_iff_ne.2 h8
  have g9 : (s.toList == [109, 101, 114, 103, 101]) = false := by rw [hlt]; exact beq_eq_false_iff_ne.2 h9
  have g10 : (s.toList == [98, 117, 102, 102, 101, 114]) = false := by rw [hlt]; exact beq_eq_false_iff_ne.2 h10
  have i0 : (s.data.toList == [99, 111, 110, 115, 116]) = false := beq_eq_false_iff_ne.2 h0
  have i1 : (s.data.toList == [97, 100, 100]) = false := beq_eq_false_iff_ne.2 h1
  have i2 : (s.data.toList == [115, 117, 98]) = false := beq_eq_false_iff_ne.2 h2
  have i3 : (s.data.toList == [109, 117, 108]) = false := beq_eq_false_iff_ne.2 h3
  have i4 : (s.data.toList == [100, 105, 118]) = false := beq_eq_false_iff_ne.2 h4
  have i5 : (s.data.toList == [108, 101, 115, 115]) = false := beq_eq_false_iff_ne.2 h5
  have i6 : (s.data.toList == [105, 102]) = false := beq_eq_false_iff_ne.2 h6
  have i7 : (s.data.toList == [102, 98, 121]) = false := beq_eq_false_iff_ne.2 h7
  have i8 : (s.data.toList == [119, 104, 101, 110]) = false := beq_eq_false_iff_ne.2 h8
  have i9 : (s.data.toList == [109, 101, 114, 103, 101]) = false := beq_eq_false_iff_ne.2 h9
  have i10 : (s.data.toList == [98, 117, 102, 102, 101, 114]) = false := beq_eq_false_iff_ne.2 h10
  have HE : Hid (operL s.data.toList = (0, [])) := by show operL s.data.toList = (0, []); simp only [operL, i0, i1, i2, i3, i4, i5, i6, i7, i8, i9, i10]; rfl
  clear hlt h0 i0 h1 i1 h2 i2 h3 i3 h4 i4 h5 i5 h6 i6 h7 i7 h8 i8 h9 i9 h10 i10
  go_enter Try.func59, Try.ntmps59
  go_wp2
  go_ret2
  exact ⟨⟨0, ⟨#[]⟩, rfl, HE.out⟩, rfl⟩
end Go.Proofs.Ytfbkjopidjojeab
