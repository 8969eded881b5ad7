/-
  Joined: Gk Gl Gm Gn.
-/
import Derived.Test.YtfbkjopidjojeabP7
import Derived.Test.YtfbkjopidjojeabP5
namespace Go.Proofs.Ytfbkjopidjojeab
open Go.RowKit

theorem Try.info38 : (Try.prog.info? 38).map (fun i => (i.zero, i.size, i.bytes)) = some (some (.slice none 0 0), 1, 24) := by kernel_rfl
theorem Try.under36 : Try.prog.underlying 36 = some (.slice 38) := by kernel_rfl

theorem own_start_ints (W : World) (B b : Nat) (h : W.heap.size = b) (hB : B ≤ b) : (W.alloc (.cells #[] 38)).ownsRow B 38 1 (.slice (some ⟨b, 0, none⟩) 0 0) 0 [] := by
  subst h
  exact World.ownsRow_made W #[] 0 hB (by unfold maxLen; omega) rfl
theorem zs_snoc (L : List Int) (z : Int) : zs (L ++ [z]) = zs L ++ [.int .i64 z] := by simp [zs]

set_option maxRecDepth 50000 in
set_option maxHeartbeats 1000000 in
theorem copied_any (L : List Int) (v : Value) (w : World) (hL : L.length ≤ 1048576) (hv : Reads w v 1 L.length (zs L)) :
    Calls Try.prog 71 #[v] w fun e w' => (∃ v', e = .returned v' ∧ w'.ownsRow w.heap.size 3 1 v' L.length (zs L)) ∧ Below w.heap.size w w' := by
  obtain ⟨j0, hjI, hyI0, hyI1, hyI2⟩ := info_parts Try.info3
  obtain ⟨p, c, rfl, _⟩ := hv.form
  go_enter Try.func71, Try.ntmps71
  go_wp2
  go_loopw [3, 4] (fun r i wr => ∃ k : Nat, i = .int .i64 k ∧ k ≤ L.length ∧ wr.ownsRow w.heap.size 3 1 r k (zs (L.take k)) ∧ Below w.heap.size w wr) (fun _ i _ => L.length - (intOf i).toNat)
  case atStart => exact ⟨0, rfl, Nat.zero_le _, own_start_int _ _ _ rfl (Nat.le_refl _), (Below.refl _ _).alloc (Nat.le_refl _) _⟩
  case round =>
    obtain ⟨k, rfl, hk, hown, hnx⟩ := hrel
    have hsz := hnx.size
    by_cases hlt : k < L.length
    · obtain ⟨b, off, rfl, hb, hcl⟩ := hv.cell (by omega)
      have c0 : wr.cell? ⟨b, off + k, none⟩ = some (.int .i64 L[k]) := by rw [hnx.cell (p := ⟨b, off + k, none⟩) hb, hcl k hlt, zs_get hlt]
      have hbz : b < wr.heap.size := by omega
      have HT : Hid (zs (L.take (k + 1)) = zs (L.take k) ++ [.int .i64 L[k]]) := by show _ = _; rw [take_one hlt, zs_snoc]
      obtain ⟨z, hz⟩ : ∃ z, L[k] = z := ⟨_, rfl⟩
      rw [hz] at c0 HT
      clear hcl hv hz
      go_wp2_with (at_builtin; refine wpList_append_own _ rfl _ _ 38 rfl w.heap.size 3 j0 (.int .i64 0) 1 8 Try.under38 hjI hyI0 hyI1 hyI2 rfl (by decide) _ _ _ rfl (hown.alloc _) ⟨wr.heap.size, 0, none⟩ 1 1 [.int .i64 z] rfl rfl (cell_one_new _ _ _) (by intro x hx; simp at hx; subst hx; rfl) (by unfold maxLen; omega) (by omega) (by simp; omega) ?_; intro v' w' hown' hgrow _)
      have hb' : Below w.heap.size w w' := (hnx.alloc hsz _).grown hgrow (by simp; omega) (fun j hj => (hown.lt j hj).1)
      have hw2 : w'.ownsRow w.heap.size 3 1 v' (k + 1) (zs (L.take (k + 1))) := by rw [HT.out]; exact hown'
      clear hown' hgrow hown hnx
      go_wp2
      go_roundw
      case rel => exact ⟨k + 1, by go_num, by omega, hw2, hb'⟩
      case measure => simp [intOf]; omega
    · have HF : Hid (k = L.length ∧ zs (L.take k) = zs L) := ⟨by omega, by rw [List.take_of_length_le (by omega)]⟩
      clear hv
      go_wp2
      go_ret
      refine ⟨⟨_, rfl, ?_⟩, hnx⟩
      have h2 := hown
      rw [HF.out.2] at h2
      rw [← HF.out.1]
      exact h2

/-- What tell has gathered. -/
structure TL (w wr : World) (ov mv : Value) (vs : List Value) (O : List (List Int)) (M : List Int) : Prop where
  outs : wr.ownsRow w.heap.size 38 1 ov vs.length vs
  vlen : vs.length = O.length
  inn : ∀ (i : Nat) (v : Value) (L : List Int), vs[i]? = some v → O[i]? = some L → wr.ownsRow w.heap.size 3 1 v L.length (zs L)
  most : wr.ownsRow w.heap.size 3 1 mv M.length (zs M)
  sep : ∀ v ∈ vs, v.ownBlock = none ∨ v.ownBlock ≠ mv.ownBlock
  bel : Below w.heap.size w wr
theorem TL.below {w wr w' : World} {ov mv : Value} {vs : List Value} {O : List (List Int)} {M : List Int} (h : TL w wr ov mv vs O M) (hb : Below wr.heap.size wr w') : TL w w' ov mv vs O M :=
  ⟨ownsRow_below h.outs hb, h.vlen, fun i v L a b => ownsRow_below (h.inn i v L a b) hb, ownsRow_below h.most hb, h.sep, h.bel.trans (hb.mono h.bel.size)⟩
theorem TL.addOut {w wr w2 w' : World} {ov mv ov' cv : Value} {vs : List Value} {O : List (List Int)} {M L : List Int} {o : Obj} {B : Nat} (h : TL w wr ov mv vs O M) (hb : Below wr.heap.size wr w2) (hc : w2.ownsRow B 3 1 cv L.length (zs L)) (hB : wr.heap.size ≤ B)
    (hown' : w'.ownsRow w.heap.size 38 1 ov' (vs.length + 1) (vs ++ [cv])) (hg : (w2.alloc o).grownBy w' ov.ownBlock) : TL w w' ov' mv (vs ++ [cv]) (O ++ [L]) M := by
  have h2 := (h.below hb).below ((Below.refl w2.heap.size w2).alloc (Nat.le_refl _) o)
  have hc2 : (w2.alloc o).ownsRow w.heap.size 3 1 cv L.length (zs L) := (own_mono hc (Nat.le_trans h.bel.size hB)).alloc o
  refine ⟨by simpa using hown', by simp [h.vlen], fun i v L' a b => ?_, h2.most.kept hg (own_ne h2.most h2.outs (by decide)), fun v hv => ?_, ?_⟩
  · rcases Nat.lt_or_ge i vs.length with q | q
    · rw [List.getElem?_append_left q] at a
      rw [List.getElem?_append_left (by rw [← h.vlen]; exact q)] at b
      have := h2.inn i v L' a b
      exact this.kept hg (own_ne this h2.outs (by decide))
    · have hi : i = vs.length := by
        have := (List.getElem?_eq_some_iff.1 a).1
        simp at this; omega
      subst hi
      rw [List.getElem?_append_right (Nat.le_refl _)] at a
      rw [h.vlen, List.getElem?_append_right (Nat.le_refl _)] at b
      simp at a b
      subst a; subst b
      exact hc2.kept hg (own_ne hc2 h2.outs (by decide))
  · rcases List.mem_append.1 hv with hv | hv
    · exact h.sep v hv
    · rw [List.mem_singleton.1 hv]
      cases hcb : cv.ownBlock with
      | none => exact .inl rfl
      | some c =>
        right
        intro e
        have h3 := (hc.lt c hcb).1
        have h4 := (h.most.lt c e.symm).2
        omega
  · have hz := h.bel.size
    have hz2 := hb.size
    exact h2.bel.grown hg (by simp; omega) (fun j hj => (h.outs.lt j hj).1)
theorem TL.addMost {w wr w' : World} {ov mv mv' : Value} {vs : List Value} {O : List (List Int)} {M : List Int} {z : Int} {o : Obj} (h : TL w wr ov mv vs O M)
    (hown' : w'.ownsRow w.heap.size 3 1 mv' (M.length + 1) (zs M ++ [.int .i64 z])) (hg : (wr.alloc o).grownBy w' mv.ownBlock) (hat : mv'.ownBlock = mv.ownBlock ∨ mv'.ownBlock = some (wr.alloc o).heap.size) : TL w w' ov mv' vs O (M ++ [z]) := by
  have h2 := h.below ((Below.refl wr.heap.size wr).alloc (Nat.le_refl _) o)
  refine ⟨h2.outs.kept hg (own_ne h2.outs h2.most (by decide)), h.vlen, fun i v L a b => ?_, by rw [zs_snoc, List.length_append]; exact hown', fun v hv => ?_, ?_⟩
  · exact (h2.inn i v L a b).kept hg (h.sep v (List.mem_of_getElem? a))
  · rcases hat with e | e
    · rw [e]; exact h.sep v hv
    · obtain ⟨i, hi⟩ := List.getElem?_of_mem hv
      have hil : i < O.length := by rw [← h.vlen]; exact (List.getElem?_eq_some_iff.1 hi).1
      have hin := h.inn i v _ hi (List.getElem?_eq_getElem hil)
      cases hcb : v.ownBlock with
      | none => exact .inl rfl
      | some c =>
        right
        rw [e]
        intro e2
        injection e2 with e2
        have := (hin.lt c hcb).2
        simp at e2
        omega
  · have hz := h.bel.size
    exact h2.bel.grown hg (by simp; omega) (fun j hj => (h.most.lt j hj).1)

theorem outs_add {ts l : List Tk} {x : Tk} (h : x.st.kind = 13 ∧ x.st.uses.length = 1) : outsOf ts (l ++ [x]) = outsOf ts l ++ [madeAt ts x.st 0] := by
  unfold outsOf
  rw [List.filter_append, List.filter_cons, if_pos (by simpa using h)]; simp
theorem outs_skip {ts l : List Tk} {x : Tk} (h : ¬ (x.st.kind = 13 ∧ x.st.uses.length = 1)) : outsOf ts (l ++ [x]) = outsOf ts l := by
  unfold outsOf
  rw [List.filter_append, List.filter_cons, if_neg (by simpa using h)]; simp
theorem most_add {l : List Tk} {x : Tk} (h : x.st.kind = 12) : mostOf (l ++ [x]) = mostOf l ++ [x.most] := by
  unfold mostOf
  rw [List.filter_append, List.filter_cons, if_pos (by simpa using h)]; simp
theorem most_skip {l : List Tk} {x : Tk} (h : x.st.kind ≠ 12) : mostOf (l ++ [x]) = mostOf l := by
  unfold mostOf
  rw [List.filter_append, List.filter_cons, if_neg (by simpa using h)]; simp
theorem outs_len (ts l : List Tk) : (outsOf ts l).length ≤ l.length := by unfold outsOf; rw [List.length_map]; exact List.length_filter_le _ _
theorem most_len (l : List Tk) : (mostOf l).length ≤ l.length := by unfold mostOf; rw [List.length_map]; exact List.length_filter_le _ _

/-- Rows stay while a result's block is set. -/
theorem own_set_res {w : World} {B b j : Nat} {e : TypeId} {size n : Nat} {v : Value} {xs : List Value} (h : w.ownsRow B e size v n xs) (hb : b < B) (u : Value) : (w.setCell ⟨b, j, none⟩ u).ownsRow B e size v n xs := ownsRow_setCell_below h hb u
/-- What tell gathered, without the frame. -/
structure TLo (B : Nat) (wr : World) (ov mv : Value) (vs : List Value) (O : List (List Int)) (M : List Int) : Prop where
  outs : wr.ownsRow B 38 1 ov vs.length vs
  vlen : vs.length = O.length
  inn : ∀ (i : Nat) (v : Value) (L : List Int), vs[i]? = some v → O[i]? = some L → wr.ownsRow B 3 1 v L.length (zs L)
  most : wr.ownsRow B 3 1 mv M.length (zs M)
theorem TLo.set {B : Nat} {wr : World} {ov mv : Value} {vs : List Value} {O : List (List Int)} {M : List Int} (h : TLo B wr ov mv vs O M) {b : Nat} (hb : b < B) (j : Nat) (u : Value) : TLo B (wr.setCell ⟨b, j, none⟩ u) ov mv vs O M :=
  ⟨own_set_res h.outs hb u, h.vlen, fun i v L a c => own_set_res (h.inn i v L a c) hb u, own_set_res h.most hb u⟩
theorem TLo.ll {B : Nat} {wr : World} {ov mv : Value} {vs : List Value} {O : List (List Int)} {M : List Int} (h : TLo B wr ov mv vs O M) : LL wr ov O ∧ Reads wr mv 1 M.length (zs M) :=
  ⟨⟨vs, h.vlen, by rw [← h.vlen]; exact Reads.of h.outs, fun i hi hi' => Reads.of (h.inn i _ _ (List.getElem?_eq_getElem hi) (List.getElem?_eq_getElem hi'))⟩, Reads.of h.most⟩
theorem TL.lo {w wr : World} {ov mv : Value} {vs : List Value} {O : List (List Int)} {M : List Int} (h : TL w wr ov mv vs O M) : TLo w.heap.size wr ov mv vs O M := ⟨h.outs, h.vlen, h.inn, h.most⟩
/-- What tell gives. -/
def TellIs (B0 : Nat) (en tk : Int) (O : List (List Int)) (M : List Int) (e : Ending) (w' : World) : Prop := ∃ ov mv vs B, B0 ≤ B ∧ e = .returned (.agg #[.int .i64 en, .int .i64 tk, ov, mv]) ∧ TLo B w' ov mv vs O M
theorem TL.ll {w wr : World} {ov mv : Value} {vs : List Value} {O : List (List Int)} {M : List Int} (h : TL w wr ov mv vs O M) : LL wr ov O :=
  ⟨vs, h.vlen, by rw [← h.vlen]; exact Reads.of h.outs, fun i hi hi' => Reads.of (h.inn i _ _ (List.getElem?_eq_getElem hi) (List.getElem?_eq_getElem hi'))⟩
/-- A result's block. -/
def ResB (w : World) (b : Nat) : Prop := w.heap[b]? = some (.cells #[.int .i64 0, .int .i64 0, .slice none 0 0, .slice none 0 0] 40 (0, 0))
theorem ResB.c {w : World} {b : Nat} (h : ResB w b) : w.cell? ⟨b, 0, none⟩ = some (.int .i64 0) ∧ w.cell? ⟨b, 1, none⟩ = some (.int .i64 0) ∧ w.cell? ⟨b, 2, none⟩ = some (.slice none 0 0) ∧ w.cell? ⟨b, 3, none⟩ = some (.slice none 0 0) ∧ w.frozen? ⟨b, 0, none⟩ = false ∧ w.frozen? ⟨b, 1, none⟩ = false ∧ w.frozen? ⟨b, 2, none⟩ = false ∧ w.frozen? ⟨b, 3, none⟩ = false :=
  ⟨by rw [cell_of_row w b 0 _ _ _ h]; rfl, by rw [cell_of_row w b 1 _ _ _ h]; rfl, by rw [cell_of_row w b 2 _ _ _ h]; rfl, by rw [cell_of_row w b 3 _ _ _ h]; rfl, frozen_of_row w b 0 _ _ h, frozen_of_row w b 1 _ _ h, frozen_of_row w b 2 _ _ h, frozen_of_row w b 3 _ _ h⟩
theorem ResB.below {w w' : World} {B b : Nat} (h : ResB w b) (hb : Below B w w') (hB : b < B) : ResB w' b := by
  unfold ResB; rw [hb.block b hB]; exact h
/-- The world with a result's block. -/
def R1 (w : World) : World := w.alloc (Obj.cells #[.int .i64 0, .int .i64 0, .slice none 0 0, .slice none 0 0] 40)
theorem R1_size (w : World) : (R1 w).heap.size = w.heap.size + 1 := by simp [R1]
theorem R1_below (w : World) : Below w.heap.size w (R1 w) := (Below.refl w.heap.size w).alloc (Nat.le_refl _) _
theorem R1_r (w : World) : ResB (R1 w) w.heap.size := by
  unfold ResB R1; rw [heap_alloc_new]
/-- What is set. -/
theorem ResB.set {w : World} {b : Nat} (h : ResB w b) (x y : Int) (ov mv : Value) : (((((w.setCell ⟨b, 0, none⟩ (.int .i64 x)).setCell ⟨b, 1, none⟩ (.int .i64 y)).setCell ⟨b, 2, none⟩ ov).setCell ⟨b, 3, none⟩ mv)).heap[b]? = some (.cells #[.int .i64 x, .int .i64 y, ov, mv] 40 (0, 0)) := by
  have h1 : w.heap[b]? = some (.cells [Value.int .i64 0, .int .i64 0, .slice none 0 0, .slice none 0 0].toArray 40 (0, 0)) := h
  have h2 := blk_set (j := 3) (blk_set (j := 2) (blk_set (j := 1) (blk_set (j := 0) h1 (.int .i64 x)) (.int .i64 y)) ov) mv
  simpa using h2
end Go.Proofs.Ytfbkjopidjojeab

namespace Go.Proofs.Ytfbkjopidjojeab
open Go.RowKit

theorem own_one {w : World} {B : Nat} {e : TypeId} {size n : Nat} {v : Value} {xs : List Value} (h : w.ownsRow B e size v n xs) : v.oneCell' = true := by
  obtain ⟨p, m, c, rfl⟩ := own_isSlice h; rfl
theorem step_ne {w : World} {B b n size : Nat} {v : Value} {xs : List Value} {s : St} {u : Value} (h : StB w b s u) (ho : w.ownsRow B 38 size v n xs) : some b ≠ v.ownBlock := by
  intro e1
  rcases ho.2 with ⟨rfl, _⟩ | ⟨g, cap, cur, rfl, _, hh, _⟩
  · simp [Value.ownBlock] at e1
  · simp only [Value.ownBlock, Option.some.injEq] at e1
    have e1 : b = g := e1
    subst e1
    unfold StB at h
    rw [h] at hh
    injection hh with hh
    injection hh with _ h2 _
    exact absurd h2 (by decide)
set_option maxRecDepth 50000 in
set_option maxHeartbeats 2000000 in
theorem tell_any (ps : List TV) (p : Option Addr) (cap : Nat) (en tk : Int) (w : World) (hr : TR w p ps) (hn : ps.length ≤ 24) (hw : TWf ps) :
    Calls Try.prog 50 #[.slice p ps.length cap, .int .i64 en, .int .i64 tk] w fun e w' => TellIs w.heap.size en tk (outsOf (ps.map Prod.fst) (ps.map Prod.fst)) (mostOf (ps.map Prod.fst)) e w' ∧ Below w.heap.size w w' := by
  obtain ⟨i0, hi, hz0, hz1, hz2⟩ := info_parts Try.info38
  obtain ⟨j0, hjI, hyI0, hyI1, hyI2⟩ := info_parts Try.info3
  have hR1 := R1_r w
  have hRs := R1_size w
  have hRb := R1_below w
  obtain ⟨ts, hts⟩ : ∃ ts, ps.map Prod.fst = ts := ⟨_, rfl⟩
  have HTS : Hid (ps.map Prod.fst = ts) := hts
  have HTL : Hid (ts.length = ps.length) := by show ts.length = _; rw [← hts]; simp
  rw [hts]
  have hrR := hr.below hRb (Nat.le_refl _)
  clear hts
  go_enter Try.func50, Try.ntmps50
  go_wp2
  have hT0 : TL (R1 w) (((R1 w).alloc (Obj.cells #[] 38)).alloc (Obj.cells #[] 3)) (.slice (some ⟨w.heap.size + 1, 0, none⟩) 0 0) (.slice (some ⟨w.heap.size + 1 + 1, 0, none⟩) 0 0) [] [] [] := by
    refine ⟨?_, rfl, fun i v L h => by simp at h, ?_, by simp, ?_⟩
    · exact (own_start_ints (R1 w) _ _ (by rw [hRs]) (by rw [hRs]; exact Nat.le_refl _)).alloc _
    · exact own_start_int ((R1 w).alloc (Obj.cells #[] 38)) _ _ (by simp [hRs]) (by rw [hRs]; omega)
    · exact ((Below.refl _ _).alloc (Nat.le_refl _) _).alloc (by simp) _
  have HT0 : Hid (TL (R1 w) (((R1 w).alloc (Obj.cells #[] 38)).alloc (Obj.cells #[] 3)) (.slice (some ⟨w.heap.size + 1, 0, none⟩) 0 0) (.slice (some ⟨w.heap.size + 1 + 1, 0, none⟩) 0 0) [] (outsOf ts (ts.take 0)) (mostOf (ts.take 0))) := hT0
  clear hT0
  go_loopw [7, 8, 9] (fun ov mv i wr => ∃ (k : Nat) (vs : List Value) (o1 m1 : Value), i = .int .i64 k ∧ ov = o1 ∧ mv = m1 ∧ k ≤ ps.length ∧ Hid (TL (R1 w) wr o1 m1 vs (outsOf ts (ts.take k)) (mostOf (ts.take k)))) (fun _ _ i _ => ps.length - (intOf i).toNat)
  case atStart => exact ⟨0, [], _, _, rfl, rfl, rfl, Nat.zero_le _, HT0⟩
  case round =>
    clear HT0
    obtain ⟨k, vs, ov, mv, rfl, hov, hmv0, hk, HT⟩ := hrel
    replace hov := hov.symm
    replace hmv0 := hmv0.symm
    subst hov
    subst hmv0
    have hbel := HT.out.bel
    have hsz := hbel.size
    rw [hRs] at hsz
    by_cases hlt : k < ps.length
    · have hrr := hrR.below hbel (Nat.le_refl _)
      obtain ⟨b, rfl, hb, hc⟩ := hrr.cel hlt
      have cc := fun j h => hc k hlt j h
      have hmem : ps[k] ∈ ps := List.getElem_mem _
      have hu := hrr.uses _ hmem
      have hux := hw.use _ hmem
      have hkt : k < ts.length := by rw [HTL.out]; exact hlt
      have htk : ts[k] = ps[k].1 := by
        have : ts[k]? = some ps[k].1 := by rw [← HTS.out]; simp [hlt]
        rw [List.getElem?_eq_getElem hkt] at this
        injection this
      have htake := take_one hkt
      rw [htk] at htake
      obtain ⟨⟨x, u, l, m⟩, hq⟩ : ∃ q, ps[k] = q := ⟨_, rfl⟩
      rw [hq] at cc hu hux htake
      have c0 := cc 0 (by omega)
      have c1 := cc 1 (by omega)
      have c2 := cc 2 (by omega)
      have c3 := cc 3 (by omega)
      have c4 := cc 4 (by omega)
      have c5 := cc 5 (by omega)
      have c6 := cc 6 (by omega)
      have c7 := cc 7 (by omega)
      have c8 := cc 8 (by omega)
      have c12 := cc 12 (by omega)
      simp only [tkCells, List.getElem?_cons_zero, List.getElem?_cons_succ, Nat.add_zero] at c0 c1 c2 c3 c4 c5 c6 c7 c8 c12 hu hux htake
      obtain ⟨up, uc, rfl, _⟩ := hu.form
      have HTK : Hid (ts.take (k + 1) = ts.take k ++ [x]) := htake
      have hz := ZS_below wr x.st (.slice up x.st.uses.length uc)
      have hzz := ZS_size wr x.st (.slice up x.st.uses.length uc)
      have hs := ZS_s wr x.st (.slice up x.st.uses.length uc)
      have hol := outs_len ts (ts.take k)
      have hml := most_len (ts.take k)
      rw [List.length_take] at hol hml
      have hvl := HT.out.vlen
      by_cases h12 : x.st.kind = 12
      · have g13 : ((x.st.kind : Int) == 13) = false := by simp; omega
        have g12 : ((x.st.kind : Int) == 12) = true := by simp; omega
        have HO : Hid (outsOf ts (ts.take (k + 1)) = outsOf ts (ts.take k)) := by show _ = _; rw [HTK.out, outs_skip (fun e => by omega)]
        have HM : Hid (mostOf (ts.take (k + 1)) = mostOf (ts.take k) ++ [x.most]) := by show _ = _; rw [HTK.out, most_add h12]
        have HT1 := HT.out.below hz
        have HmO := HT1.most
        obtain ⟨z, hzm⟩ : ∃ z, x.most = z := ⟨_, rfl⟩
        rw [hzm] at c12 HM
        obtain ⟨ML, hML⟩ : ∃ ML, mostOf (ts.take k) = ML := ⟨_, rfl⟩
        rw [hML] at HmO HM hml
        have HML : Hid (mostOf (ts.take k) = ML) := hML
        clear hc cc hrr hu hux hq hmem htk htake h12 hzm hML hvl
        go_wp2_with (at_builtin; refine wpList_append_own_at _ rfl _ _ 38 rfl (R1 w).heap.size 3 j0 (.int .i64 0) 1 8 Try.under38 hjI hyI0 hyI1 hyI2 rfl (by decide) _ _ _ rfl (HmO.alloc _) ⟨wr.heap.size + 1, 0, none⟩ 1 1 [.int .i64 z] rfl rfl (cells_new _ _ _ _ (by simp)) (by intro x hx; simp at hx; subst hx; rfl) (by unfold maxLen; omega) (by omega) (by rw [hRs]; simp; omega) ?_; intro v' w' hown' hgrow _ hat)
        have HT2 : Hid (TL (R1 w) w' ov v' vs (outsOf ts (ts.take (k + 1))) (mostOf (ts.take (k + 1)))) := by
          show TL _ _ _ _ _ _ _
          rw [HO.out, HM.out]
          rw [HML.out] at HT1
          exact HT1.addMost hown' hgrow hat
        clear hown' hgrow hat HmO HT1 HT
        go_wp2
        go_roundw
        case rel => exact ⟨k + 1, vs, _, _, by go_num, rfl, rfl, by omega, HT2⟩
        case measure => simp [intOf]; omega
      · have g12 : ((x.st.kind : Int) == 12) = false := by simp; omega
        have HM : Hid (mostOf (ts.take (k + 1)) = mostOf (ts.take k)) := by show _ = _; rw [HTK.out, most_skip h12]
        by_cases h13 : x.st.kind = 13 ∧ x.st.uses.length = 1
        · have g13 : ((x.st.kind : Int) == 13) = true := by simp; omega
          have g1 : ((x.st.uses.length : Int) == 1) = true := by simp; omega
          have h0 : 0 < x.st.uses.length := by omega
          obtain ⟨ub, uo, rfl, hub, hrw⟩ := hu.cell (by omega)
          obtain ⟨j, hj⟩ : ∃ j, j = x.st.uses[0] := ⟨_, rfl⟩
          have hjl : j < ps.length := by rw [hj]; exact hux _ (List.getElem_mem _)
          have cu : wr.cell? ⟨ub, uo, none⟩ = some (.int .i64 (j : Int)) := by
            have := hrw 0 h0
            rw [ints_get h0, ← hj] at this; exact this
          have hjm : ps[j] ∈ ps := List.getElem_mem _
          have hm2 := hrr.made _ hjm
          have hlen2 := hw.len _ hjm
          have e11 : wr.cell? ⟨b, j * 13 + 11, none⟩ = some ps[j].2.2.2 := hc j hjl 11 (by omega)
          have HO : Hid (outsOf ts (ts.take (k + 1)) = outsOf ts (ts.take k) ++ [ps[j].1.made]) := by
            show _ = _
            rw [HTK.out, outs_add h13, madeAt_of (j := j) (x := ps[j].1) (by rw [List.getElem?_eq_getElem h0, ← hj]) (by rw [← HTS.out]; simp [hjl])]
          obtain ⟨mp, mc, hmv, _⟩ := hm2.form
          rw [hmv] at hm2 e11
          obtain ⟨L, hL⟩ : ∃ L, ps[j].1.made = L := ⟨_, rfl⟩
          rw [hL] at hm2 e11 HO hlen2
          have hcall := fun w1 (h1 : Below wr.heap.size wr w1) => copied_any L (.slice mp L.length mc) w1 (by omega) (hm2.below h1 (Nat.le_refl _))
          have hI0 : 0 < x.st.uses.length := h0
          have HTO := HT.out.outs
          obtain ⟨OL, hOL⟩ : ∃ OL, outsOf ts (ts.take k) = OL := ⟨_, rfl⟩
          rw [hOL] at hvl HO hol
          have HOL : Hid (outsOf ts (ts.take k) = OL) := hOL
          clear hc cc hrr hu hux hq hmem htk htake h12 h13 hrw hj hjm hm2 hmv hL hOL
          go_wp2_with fail
          refine (hcall _ hz).mono ?_
          rintro e w2 ⟨⟨cv, rfl, hcv⟩, hb2⟩
          obtain ⟨cp, cn, cq, hce⟩ := own_isSlice hcv
          subst hce
          have hB2 : Below wr.heap.size wr w2 := hz.trans (hb2.mono (by rw [hzz]; omega))
          have hzw2 := hb2.size
          rw [hzz] at hzw2
          have hO2 := ownsRow_below HTO hB2
          have hs2 := hs.below hb2 (by rw [hzz]; omega)
          have d1 : w2.cell? ⟨wr.heap.size, 1, none⟩ = some (.int .i64 x.st.kind) := hs2.c 1
          have HD1 : Hid (∀ w', (w2.alloc (Obj.cells #[.slice cp cn cq] 38)).grownBy w' ov.ownBlock → w'.cell? ⟨wr.heap.size, 1, none⟩ = some (.int .i64 x.st.kind)) := fun w' hg => hg.cell (by
            rw [Below.cell (p := ⟨wr.heap.size, 1, none⟩) ((Below.refl w2.heap.size w2).alloc (Nat.le_refl _) _) (by show wr.heap.size < _; omega)]; exact d1) (step_ne hs2 hO2)
          go_wp2_with (at_builtin; refine wpList_append_own _ rfl _ _ 36 rfl (R1 w).heap.size 38 i0 (.slice none 0 0) 1 24 Try.under36 hi hz0 hz1 hz2 rfl (by decide) _ _ _ rfl (hO2.alloc _) ⟨w2.heap.size, 0, none⟩ 1 1 [.slice cp cn cq] rfl rfl (cell_one_new _ _ _) (by intro x hx; simp at hx; subst hx; rfl) (by unfold maxLen; omega) (by omega) (by rw [hRs]; simp; omega) ?_; intro v' w' hown' hgrow _; have d1' := HD1.out w' hgrow)
          have HT2 : Hid (TL (R1 w) w' v' mv (vs ++ [.slice cp cn cq]) (outsOf ts (ts.take (k + 1))) (mostOf (ts.take (k + 1)))) := by
            show TL _ _ _ _ _ _ _
            rw [HO.out, HM.out]
            have h1 := HT.out
            rw [HOL.out] at h1
            exact h1.addOut hB2 hcv (by rw [hzz]; omega) hown' hgrow
          clear hown' hgrow HT hO2 HTO
          go_wp2
          go_roundw
          case rel => exact ⟨k + 1, _, _, _, by go_num, rfl, rfl, by omega, HT2⟩
          case measure => simp [intOf]; omega
        · have HO : Hid (outsOf ts (ts.take (k + 1)) = outsOf ts (ts.take k)) := by show _ = _; rw [HTK.out, outs_skip h13]
          have HT2 : Hid (TL (R1 w) (ZS wr x.st (.slice up x.st.uses.length uc)) ov mv vs (outsOf ts (ts.take (k + 1))) (mostOf (ts.take (k + 1)))) := by
            show TL _ _ _ _ _ _ _
            rw [HO.out, HM.out]
            exact HT.out.below hz
          by_cases h13' : x.st.kind = 13
          · have g13 : ((x.st.kind : Int) == 13) = true := by simp; omega
            have g1 : ((x.st.uses.length : Int) == 1) = false := by simp only [beq_eq_false_iff_ne, ne_eq]; omega
            clear hc cc hrr hu hux hq hmem htk htake h12 h13 h13'
            go_wp2
            go_roundw
            case rel => exact ⟨k + 1, vs, _, _, by go_num, rfl, rfl, by omega, HT2⟩
            case measure => simp [intOf]; omega
          · have g13 : ((x.st.kind : Int) == 13) = false := by simp; omega
            clear hc cc hrr hu hux hq hmem htk htake h12 h13 h13'
            go_wp2
            go_roundw
            case rel => exact ⟨k + 1, vs, _, _, by go_num, rfl, rfl, by omega, HT2⟩
            case measure => simp [intOf]; omega
    · have hTf := HT.out
      rw [List.take_of_length_le (by rw [HTL.out]; omega)] at hTf
      have HTF : Hid (TL (R1 w) wr ov mv vs (outsOf ts ts) (mostOf ts)) := hTf
      have hRr := hR1.below hbel (by rw [hRs]; omega)
      obtain ⟨r0, r1, r2, r3, f0, f1, f2, f3⟩ := hRr.c
      obtain ⟨op, on, oc, hoe⟩ := own_isSlice hTf.outs
      obtain ⟨mp, mn, mc, hme⟩ := own_isSlice hTf.most
      subst hoe
      subst hme
      clear hr hrR hTf
      go_wp2
      have hset := hRr.set en tk (.slice op on oc) (.slice mp mn mc)
      have q := fun j => cell_of_row _ _ j _ _ _ hset
      have q0 := q 0
      have q1 := q 1
      have q2 := q 2
      have q3 := q 3
      simp only [List.getElem?_toArray, List.getElem?_cons_zero, List.getElem?_cons_succ] at q0 q1 q2 q3
      refine bodyPost_ret (v := .agg #[.int .i64 en, .int .i64 tk, .slice op on oc, .slice mp mn mc]) (by simp [results, Try.results50, go_sem, q0, q1, q2, q3]) rfl ⟨?_, ?_⟩
      · have hlt : w.heap.size < (R1 w).heap.size := by rw [hRs]; omega
        exact ⟨_, _, vs, (R1 w).heap.size, by omega, rfl, ((((HTF.out.lo.set hlt 0 (.int .i64 en)).set hlt 1 (.int .i64 tk)).set hlt 2 (.slice op on oc)).set hlt 3 (.slice mp mn mc))⟩
      · exact (((((hRb.trans (hbel.mono (by rw [hRs]; omega))).setCell (Nat.le_refl _) _).setCell (Nat.le_refl _) _).setCell (Nat.le_refl _) _).setCell (Nat.le_refl _) _)
end Go.Proofs.Ytfbkjopidjojeab

namespace Go.Proofs.Ytfbkjopidjojeab
open Go.RowKit

/-- A step without a clock has none at all. -/
def NoCk (qs : List St) : Prop := ∀ s ∈ qs, s.ck.2 = [] → s.ck.1 = []
theorem tick_nock {qs rs : List St} {k : Nat} {m m' : Bool} (hf : NoCk qs) (h : tick qs k m = .ok (rs, m')) : NoCk rs := by
  unfold tick at h
  split at h
  · cases h; exact hf
  · split at h
    · cases h; exact hf
    · split at h
      · cases h
      · split at h
        · rename_i hc
          cases h
          intro t ht
          rcases List.mem_or_eq_of_mem_set ht with ht | ht
          · exact hf t ht
          · subst ht
            intro e
            exact absurd e (hasC_ne hc)
        · cases h; exact hf
theorem pass_nock {n : Nat} : ∀ {qs rs : List St} {k : Nat} {m m' : Bool}, NoCk qs → pass n qs k m = .ok (rs, m') → NoCk rs := by
  induction n with
  | zero => intro qs rs k m m' hc h; simp [pass] at h; rw [← h.1]; exact hc
  | succ n ih =>
    intro qs rs k m m' hc h
    rw [pass] at h
    cases ht : tick qs k m with
    | error g => rw [ht] at h; cases h
    | ok r =>
      rw [ht] at h
      obtain ⟨r1, r2⟩ := r
      exact ih (tick_nock hc ht) h
theorem solve_nock {n : Nat} : ∀ {qs rs : List St}, NoCk qs → solveL n qs = .ok rs → NoCk rs := by
  induction n with
  | zero => intro qs rs hc h; simp [solveL] at h; rw [← h]; exact hc
  | succ n ih =>
    intro qs rs hc h
    rw [solveL] at h
    cases hp : pass qs.length qs 0 false with
    | error g => rw [hp] at h; cases h
    | ok r =>
      rw [hp] at h
      obtain ⟨r1, r2⟩ := r
      simp only at h
      split at h
      · exact ih (pass_nock hc hp) h
      · cases h; exact pass_nock hc hp
theorem comp_nock {t : List UInt8} {rs : List St} (h : compF t = .ok rs) : NoCk rs := by
  unfold compF at h
  cases hs : sourceL t with
  | error g => rw [hs] at h; cases h
  | ok ls =>
    rw [hs] at h
    obtain ⟨h1, _⟩ := source_good hs
    simp only at h
    unfold makeF at h
    split at h
    · cases hk : linkL ls ls with
      | error g => rw [hk] at h; cases h
      | ok qs =>
        obtain ⟨g1, _⟩ := link_good h1 hk
        rw [hk] at h
        simp only at h
        split at h
        · cases hv : solveL (qs.length + 1) (qs.map give) with
          | error g => rw [hv] at h; cases h
          | ok ts =>
            rw [hv] at h
            simp only at h
            split at h
            · cases h
              refine solve_nock (fun s hs => ?_) hv
              obtain ⟨q, hq, rfl⟩ := List.mem_map.1 hs
              cases hg : isGv q.kind with
              | false => rw [give_no hg, (g1 q hq).2]; exact fun _ => rfl
              | true => rw [give_yes hg]; exact fun e => absurd e ((g1 q hq).1.has (.inr (.inr hg)))
            · cases h
        · cases h
    · cases h
theorem st_ok {rs : List St} (hp : Prog rs) (hn : NoCk rs) : ∀ s ∈ rs, StOk rs.length s := fun s hs =>
  ⟨(hp.wf s hs).use, fun h => (hp.wf s hs).has (.inr (.inl h)), (hp.wf s hs).wd, hp.ok s hs, hn s hs⟩

/-- The order's row. -/
def OrdAt (w : World) (xp : Option Addr) (X : List Nat) (B g : Nat) : Prop := X = [] ∨ ∃ xb xo, xp = some ⟨xb, xo, none⟩ ∧ Row w xb xo (ints X) ∧ xb < B ∧ xb ≠ g
theorem OrdAt.keep {w w' : World} {xp : Option Addr} {X : List Nat} {B g : Nat} (h : OrdAt w xp X B g) (hk : Keep g B w w') : OrdAt w' xp X B g := by
  rcases h with h | ⟨xb, xo, h1, h2, h3, h4⟩
  · exact .inl h
  · refine .inr ⟨xb, xo, h1, ⟨Nat.lt_of_lt_of_le h2.1 hk.size, fun i hi => ?_⟩, h3, h4⟩
    rw [World.cell?_of_block (hk.block xb h3 h4)]; exact h2.2 i hi

set_option maxRecDepth 50000 in
set_option maxHeartbeats 1000000 in
theorem makeTick_nil (w0 : World) (B g n cap t xc : Nat) (xp : Option Addr) (ps : List TV) (w : World) (h : TA w0 w B g n cap ps) :
    Calls Try.prog 53 #[.slice (some ⟨g, 0, none⟩) n cap, .slice xp 0 xc, .int .i64 t] w
      fun e w' => NoteIs w0 B g n cap (tickL t (ps.map Prod.fst) []) e w' ∧ Keep g B w w' := by
  have HT : Hid (TA w0 w B g n cap ps) := h
  clear h
  go_enter Try.func53, Try.ntmps53
  go_wp2
  go_loopw [6] (fun i wr => i = .int .i64 0 ∧ wr = w) (fun _ _ => 0)
  case atStart => exact ⟨rfl, rfl⟩
  case round =>
    obtain ⟨rfl, rfl⟩ := hrel
    go_wp2
    go_end0
    exact ⟨⟨rfl, ps, HT.out, rfl⟩, Keep.of (Below.refl _ _)⟩
theorem makeTick_all (w0 : World) (B g n cap t : Nat) (rs : List St) (ps : List TV) (X : List Nat) (xp : Option Addr) (xc : Nat) (w : World) (h : TA w0 w B g n cap ps) (hn : n ≤ 24) (hst : (ps.map Prod.fst).map Tk.st = rs) (hok : ∀ s ∈ rs, StOk rs.length s)
    (hlen : ∀ x ∈ ps.map Prod.fst, x.made.length ≤ t) (ht : t < 4096) (hX : X.Nodup) (hXn : ∀ x ∈ X, x < n) (hXl : X.length ≤ 24) (ho : OrdAt w xp X B g) :
    Calls Try.prog 53 #[.slice (some ⟨g, 0, none⟩) n cap, .slice xp X.length xc, .int .i64 t] w
      fun e w' => NoteIs w0 B g n cap (tickL t (ps.map Prod.fst) X) e w' ∧ Keep g B w w' := by
  rcases ho with rfl | ⟨xb, xo, rfl, h2, h3, h4⟩
  · exact makeTick_nil w0 B g n cap t xc xp ps w h
  · exact makeTick_any w0 B g n cap t rs ps X xb xo xc w h hn hst hok hlen ht hX hXn hXl h2 h3 h4

/-- How a run stands ahead of tick t. -/
structure RunAt (w0 w wr : World) (B g n cap : Nat) (rs : List St) (X : List Nat) (xp : Option Addr) (ts0 : List Tk) (ticks t : Nat) (ps : List TV) : Prop where
  ta : TA w0 wr B g n cap ps
  sim : ps.map Prod.fst = simL X ts0 t
  run : runL X ticks 0 ts0 = runL X (ticks - t) t (simL X ts0 t)
  ord : OrdAt wr xp X B g
  at_ : At rs t (simL X ts0 t)
theorem RunAt.wf {w0 w wr : World} {B g n cap : Nat} {rs : List St} {X : List Nat} {xp : Option Addr} {ts0 : List Tk} {ticks t : Nat} {ps : List TV} (h : RunAt w0 w wr B g n cap rs X xp ts0 ticks t ps) (hok : ∀ s ∈ rs, StOk rs.length s) (ht : t ≤ 4096) : TWf ps :=
  TWf.of (by rw [h.sim]; exact h.at_.st) hok (fun x hx => by rw [h.sim] at hx; rw [h.at_.len x hx]; have := ones_le (ckS x.st) t; omega)
theorem RunAt.below {w0 w wr w' : World} {B g n cap : Nat} {rs : List St} {X : List Nat} {xp : Option Addr} {ts0 : List Tk} {ticks t : Nat} {ps : List TV} (h : RunAt w0 w wr B g n cap rs X xp ts0 ticks t ps) (hb : Below wr.heap.size wr w') : RunAt w0 w w' B g n cap rs X xp ts0 ticks t ps :=
  ⟨h.ta.below hb, h.sim, h.run, h.ord.keep (Keep.of (hb.mono h.ta.Bw)), h.at_⟩
end Go.Proofs.Ytfbkjopidjojeab

namespace Go.Proofs.Ytfbkjopidjojeab
open Go.RowKit

theorem nodup_len {X : List Nat} {n : Nat} (h : X.Nodup) (hl : ∀ x ∈ X, x < n) : X.length ≤ n := by
  rcases Nat.lt_or_ge n X.length with q | q
  · exfalso
    obtain ⟨i, j, hij, hj, he⟩ := pigeon n (fun i => X.getD i 0) (fun i hi => by
      have hil : i < X.length := by omega
      simp only [List.getD_eq_getElem?_getD, List.getElem?_eq_getElem hil, Option.getD_some]
      exact hl _ (List.getElem_mem _))
    have hil : i < X.length := by omega
    have hjl : j < X.length := by omega
    simp only [List.getD_eq_getElem?_getD, List.getElem?_eq_getElem hil, List.getElem?_eq_getElem hjl, Option.getD_some] at he
    have := (List.pairwise_iff_getElem.1 h) i j hil hjl hij
    exact this he
  · exact q

/-- What Run gives. -/
def RunIs (B0 : Nat) (rs : List St) (Ls : List (List Int)) (Zs : List Int) (ticks : Nat) (e : Ending) (w' : World) : Prop :=
  ∃ X, OrdOk rs X ∧ ∃ (ov mv : Value) (vs : List Value) (B en tk : Nat) (us : List Tk), B0 ≤ B ∧ runL X ticks 0 (beginL rs Ls Zs) = (en, tk, us) ∧ e = .returned (.tuple #[.agg #[.int .i64 en, .int .i64 tk, ov, mv], .int .i64 0]) ∧ TLo B w' ov mv vs (outsOf us us) (mostOf us)
theorem bg_fin {w : World} {rs : List St} {Ls : List (List Int)} {Zs : List Int} {a c : Nat} {ps : List TV} (h : BgAt w rs Ls Zs rs.length a c ps) : ps.map Prod.fst = beginL rs Ls Zs := by
  have := h.eq
  rw [List.drop_length, beginL, List.append_nil] at this
  exact this.symm

set_option maxRecDepth 50000 in
set_option maxHeartbeats 4000000 in
theorem Run_gen (qs : List (St × Value)) (R : List St) (p lp zp : Option Addr) (cap lc zc ticks n : Nat) (Ls : List (List Int)) (Zs : List Int) (w : World) (hqn : qs.length = n) (hl : n ≤ 24) (hr : RS w p qs) (hLb : Ls.length ≤ 1048576) (hZb : Zs.length ≤ 1048576)
    (hL : LL w (.slice lp Ls.length lc) Ls) (hZ : Reads w (.slice zp Zs.length zc) 1 Zs.length (zs Zs)) (hR : qs.map Prod.fst = R) (hg : Good R) (hnc : NoCk R) (ht : ticks ≤ 4096)
    (href : ∀ w1, Below w.heap.size w w1 → Calls Try.prog 46 #[.slice p n cap, .slice lp Ls.length lc, .int .i64 ticks, .slice zp Zs.length zc] w1 fun e w' => e = .returned (.int .i64 0) ∧ w' = w1) :
    Calls Try.prog 32 #[.slice p n cap, .slice lp Ls.length lc, .int .i64 ticks, .slice zp Zs.length zc] w fun e w' => RunIs w.heap.size R Ls Zs ticks e w' ∧ Below w.heap.size w w' := by
  have hR1 := R1_r w
  have hRs := R1_size w
  have hRb := R1_below w
  have hRn : R.length = n := by rw [← hR, List.length_map, hqn]
  have HRn : Hid (R.length = n) := hRn
  have hbeg := begin_any qs p lp zp cap lc zc Ls Zs (R1 w) (by omega) (hr.below hRb (Nat.le_refl _)) hLb hZb (hL.below hRb (Nat.le_refl _)) (hZ.below hRb (Nat.le_refl _))
  rw [hR, hqn] at hbeg
  have hord := fun w1 (h1 : Below w.heap.size w w1) => Order_any qs p cap w1 (by omega) (hr.below h1 (Nat.le_refl _)) (by rw [hR]; exact hg.prog.wf) (by rw [hR]; exact hg.prog.acyc)
  rw [hR, hqn] at hord
  have hrf := href (R1 w) hRb
  have hst := st_ok hg.prog hnc
  have HST : Hid (∀ s ∈ R, StOk R.length s) := hst
  have HG : Hid (Good R) := hg
  clear href hL hZ hr hnc hR hst hg hqn
  go_enter Try.func32, Try.ntmps32
  go_wp2_with fail
  refine hrf.mono ?_
  rintro e w1 ⟨rfl, hw1⟩
  subst w1
  go_wp2_with fail
  refine hbeg.mono ?_
  rintro e w1 ⟨⟨g, gc, ps, a, c, rfl, hrow, hbg⟩, hb1⟩
  have hB1 : Below w.heap.size w w1 := hRb.trans (hb1.mono (by rw [hRs]; omega))
  rw [hRn] at hrow ⊢
  go_wp2_with fail
  refine (hord w1 hB1).mono ?_
  rintro e w2 ⟨⟨xv, X, rfl, hX, hO⟩, hb2⟩
  obtain ⟨xp, xn, xc, hxe⟩ := own_isSlice hX
  have hxr := Reads.of hX
  rw [hxe] at hxr
  have hxn : xn = X.length := by
    obtain ⟨_, q, c', he, _, _⟩ := hxr
    injection he
  subst hxn
  subst hxe
  have hXl : X.length ≤ n := by
    rw [← hRn]
    exact nodup_len hO.nodup hO.lt
  obtain ⟨hg1, hg2⟩ := hrow.lt g rfl
  have hb2s := hb2.size
  have hb1s := hb1.size
  obtain ⟨ts0, hts0⟩ : ∃ ts, ts = beginL R Ls Zs := ⟨_, rfl⟩
  have HTS : Hid (ts0 = beginL R Ls Zs) := hts0
  have hps : ps.map Prod.fst = ts0 := by rw [hts0]; exact bg_fin hbg
  have hpl : ps.length = n := by rw [← hRn]; exact hbg.len
  have HO : Hid (OrdOk R X) := hO
  have hta : TA (R1 w) w2 w2.heap.size g n gc ps := by
    refine ⟨hpl, hg1, by omega, Nat.le_refl _, ownsRow_below hrow hb2, fun q hq => hbg.uses q hq, fun q hq => hbg.list q hq, fun q hq => ?_, fun i j x y hx _ _ => ?_, hb1.trans (hb2.mono hb1s)⟩
    · obtain ⟨e1, e2⟩ := hbg.made q hq
      rw [e1, e2]
      exact World.ownsRow_nil _ _ _ _
    · left; rw [(hbg.made x (List.mem_of_getElem? hx)).1]; rfl
  have hat0 : At R 0 ts0 := by rw [hts0]; exact begin_at R Ls Zs
  have hordat : OrdAt w2 xp X w2.heap.size g := by
    rcases hxr.2 with ⟨q, c', he, _, h0 | ⟨b, off, h1, h2⟩⟩
    · exact .inl (List.length_eq_zero_iff.1 h0)
    · injection he with he1 _ _
      refine .inr ⟨b, off, by rw [he1, h1], h2, h2.1, ?_⟩
      have := (hX.lt b (by rw [he1, h1]; rfl)).1
      omega
  have HRA : Hid (RunAt (R1 w) w w2 w2.heap.size g n gc R X xp ts0 ticks 0 ps) := ⟨hta, hps, by rw [Nat.sub_zero]; rfl, hordat, hat0⟩
  have HAT : Hid (∀ t, At R t (simL X ts0 t)) := sim_at HG.out hO hat0
  obtain ⟨B, hB⟩ : ∃ B, B = w2.heap.size := ⟨_, rfl⟩
  rw [← hB] at HRA
  have HXN : Hid (X.Nodup ∧ ∀ x ∈ X, x < n) := ⟨hO.nodup, fun x hx => by rw [← hRn]; exact hO.lt x hx⟩
  clear hta hordat hps hpl hbg hrow hX hxr hO hat0 hts0 hord hbeg hrf hb1 hb2 hB1 hB hg1 hg2 hb2s hb1s
  go_wp2
  go_loopw [13] (fun i wr => ∃ (t : Nat) (ps : List TV), i = .int .i64 t ∧ t ≤ ticks ∧ Hid (RunAt (R1 w) w wr B g n gc R X xp ts0 ticks t ps)) (fun i _ => ticks - (intOf i).toNat)
  case atStart => exact ⟨0, ps, rfl, Nat.zero_le _, HRA⟩
  case round =>
    clear HRA
    obtain ⟨t, ps, rfl, hkt, HRA⟩ := hrel
    have hra := HRA.out
    have hwf := hra.wf HST.out (by omega)
    have htell := fun (en : Int) w3 (h3 : Below wr.heap.size wr w3) => tell_any ps (some ⟨g, 0, none⟩) gc en t w3 (hra.ta.below h3).tr (by rw [hra.ta.len]; omega) hwf
    rw [hra.ta.len, hra.sim] at htell
    have hbelr := hra.ta.bel
    have hzr := hbelr.size
    rw [hRs] at hzr
    by_cases hlt : t < ticks
    · have hwant := wants_any ps (some ⟨g, 0, none⟩) gc t wr hra.ta.tr (by rw [hra.ta.len]; omega) hwf (by omega)
      rw [hra.ta.len, hra.sim] at hwant
      have hrun := hra.run
      obtain ⟨f, hf⟩ : ∃ f, ticks - t = f + 1 := ⟨ticks - t - 1, by omega⟩
      rw [hf, runL] at hrun
      cases hw : wantsL (simL X ts0 t) t with
      | true =>
        rw [hw] at hwant
        rw [if_pos hw] at hrun
        have HRUN : Hid (runL X ticks 0 ts0 = (2, t, simL X ts0 t)) := hrun
        have htell2 := fun w3 h3 => htell 2 w3 h3
        clear hra hwf hrun hf hw htell
        go_wp2_with fail
        refine hwant.mono ?_
        rintro e w3 ⟨rfl, hb3⟩
        go_wp2_with fail
        refine (htell2 w3 hb3).mono ?_
        rintro e w9 ⟨⟨ov, mv, vs, BB, hBB, rfl, hTL⟩, hb9⟩
        obtain ⟨op, on, oc, hoe⟩ := own_isSlice hTL.outs
        subst hoe
        obtain ⟨mp, mn, mc, hme⟩ := own_isSlice hTL.most
        subst hme
        have hall : Below (R1 w).heap.size (R1 w) w9 := hbelr.trans ((hb3.trans (hb9.mono hb3.size)).mono hbelr.size)
        have hz9 := hall.size
        rw [hRs] at hz9
        have hRr := hR1.below hall (by rw [hRs]; omega)
        obtain ⟨r0, r1, r2, r3, f0, f1, f2, f3⟩ := hRr.c
        have HTL : Hid (TLo BB w9 (.slice op on oc) (.slice mp mn mc) vs _ _) := hTL
        have HBB : Hid (w.heap.size < BB) := by show w.heap.size < BB; have := hb3.size; omega
        clear hTL
        go_wp2
        have hset := hRr.set 2 t (.slice op on oc) (.slice mp mn mc)
        have q := fun j => cell_of_row _ _ j _ _ _ hset
        have q0 := q 0
        have q1 := q 1
        have q2 := q 2
        have q3 := q 3
        simp only [List.getElem?_toArray, List.getElem?_cons_zero, List.getElem?_cons_succ] at q0 q1 q2 q3
        refine bodyPost_ret (v := .tuple #[.agg #[.int .i64 2, .int .i64 t, .slice op on oc, .slice mp mn mc], .int .i64 0]) (by simp [results, Try.results32, go_sem, q0, q1, q2, q3]) rfl ⟨?_, ?_⟩
        · exact ⟨X, HO.out, _, _, vs, BB, _, _, _, Nat.le_of_lt HBB.out, by rw [← HTS.out]; exact HRUN.out, rfl, (((HTL.out.set HBB.out 0 _).set HBB.out 1 _).set HBB.out 2 _).set HBB.out 3 _⟩
        · exact (((((hRb.trans (hall.mono (by rw [hRs]; omega))).setCell (Nat.le_refl _) _).setCell (Nat.le_refl _) _).setCell (Nat.le_refl _) _).setCell (Nat.le_refl _) _)
      | false =>
        rw [hw] at hwant
        rw [if_neg (by rw [hw]; simp)] at hrun
        have hover := fun w3 (h3 : Below wr.heap.size wr w3) => overflows_any ps (some ⟨g, 0, none⟩) gc t w3 (hra.ta.below h3).tr (by rw [hra.ta.len]; omega) hwf (by omega)
        rw [hra.ta.len, hra.sim] at hover
        cases hov : overL (simL X ts0 t) t with
        | true =>
          rw [hov] at hover
          rw [if_pos hov] at hrun
          have HRUN : Hid (runL X ticks 0 ts0 = (3, t, simL X ts0 t)) := hrun
          have htell3 := fun w3 h3 => htell 3 w3 h3
          clear hra hwf hrun hf hw hov htell
          go_wp2_with fail
          refine hwant.mono ?_
          rintro e w3 ⟨rfl, hb3⟩
          go_wp2_with fail
          refine (hover w3 hb3).mono ?_
          rintro e w4 ⟨rfl, hb4⟩
          have hB4 : Below wr.heap.size wr w4 := hb3.trans (hb4.mono hb3.size)
          go_wp2_with fail
          refine (htell3 w4 hB4).mono ?_
          rintro e w9 ⟨⟨ov, mv, vs, BB, hBB, rfl, hTL⟩, hb9⟩
          obtain ⟨op, on, oc, hoe⟩ := own_isSlice hTL.outs
          subst hoe
          obtain ⟨mp, mn, mc, hme⟩ := own_isSlice hTL.most
          subst hme
          have hall : Below (R1 w).heap.size (R1 w) w9 := hbelr.trans ((hB4.trans (hb9.mono hB4.size)).mono hbelr.size)
          have hz9 := hall.size
          rw [hRs] at hz9
          have hRr := hR1.below hall (by rw [hRs]; omega)
          obtain ⟨r0, r1, r2, r3, f0, f1, f2, f3⟩ := hRr.c
          have HTL : Hid (TLo BB w9 (.slice op on oc) (.slice mp mn mc) vs _ _) := hTL
          have HBB : Hid (w.heap.size < BB) := by show w.heap.size < BB; have := hB4.size; omega
          clear hTL
          go_wp2
          have hset := hRr.set 3 t (.slice op on oc) (.slice mp mn mc)
          have q := fun j => cell_of_row _ _ j _ _ _ hset
          have q0 := q 0
          have q1 := q 1
          have q2 := q 2
          have q3 := q 3
          simp only [List.getElem?_toArray, List.getElem?_cons_zero, List.getElem?_cons_succ] at q0 q1 q2 q3
          refine bodyPost_ret (v := .tuple #[.agg #[.int .i64 3, .int .i64 t, .slice op on oc, .slice mp mn mc], .int .i64 0]) (by simp [results, Try.results32, go_sem, q0, q1, q2, q3]) rfl ⟨?_, ?_⟩
          · exact ⟨X, HO.out, _, _, vs, BB, _, _, _, Nat.le_of_lt HBB.out, by rw [← HTS.out]; exact HRUN.out, rfl, (((HTL.out.set HBB.out 0 _).set HBB.out 1 _).set HBB.out 2 _).set HBB.out 3 _⟩
          · exact (((((hRb.trans (hall.mono (by rw [hRs]; omega))).setCell (Nat.le_refl _) _).setCell (Nat.le_refl _) _).setCell (Nat.le_refl _) _).setCell (Nat.le_refl _) _)
        | false =>
          rw [hov] at hover
          rw [if_neg (by rw [hov]; simp)] at hrun
          have hfe : f = ticks - (t + 1) := by omega
          have hrun2 : runL X ticks 0 ts0 = runL X (ticks - (t + 1)) (t + 1) (simL X ts0 (t + 1)) := by rw [← hfe]; exact hrun
          have HRUN : Hid (runL X ticks 0 ts0 = runL X (ticks - (t + 1)) (t + 1) (simL X ts0 (t + 1))) := hrun2
          clear hwf hrun hf hw hov htell hfe hrun2 hra
          go_wp2_with fail
          refine hwant.mono ?_
          rintro e w3 ⟨rfl, hb3⟩
          go_wp2_with fail
          refine (hover w3 hb3).mono ?_
          rintro e w4 ⟨rfl, hb4⟩
          have hB4 : Below wr.heap.size wr w4 := hb3.trans (hb4.mono hb3.size)
          have hra4 := HRA.out.below hB4
          have hlen4 : ∀ x ∈ ps.map Prod.fst, x.made.length ≤ t := fun x hx => by
            rw [hra4.sim] at hx
            rw [hra4.at_.len x hx]; exact ones_le _ _
          have hnote := noteMost_any (R1 w) B g n gc t R ps w4 hra4.ta hl (by rw [hra4.sim]; exact hra4.at_.st) HST.out (fun x hx => by have := hlen4 x hx; omega) (by omega)
          rw [hra4.sim] at hnote
          have HRA4 : Hid _ := hra4
          clear hra4 hlen4
          go_wp2_with fail
          refine hnote.mono ?_
          rintro e w5 ⟨⟨rfl, ps5, hta5, hps5⟩, hk5⟩
          have hat5 : At R t (noteL (simL X ts0 t) t) := HRA4.out.at_.note
          have hord5 := HRA4.out.ord.keep hk5
          have hlen5 : ∀ x ∈ ps5.map Prod.fst, x.made.length ≤ t := fun x hx => by
            rw [hps5] at hx
            rw [hat5.len x hx]; exact ones_le _ _
          have hmake := makeTick_all (R1 w) B g n gc t R ps5 X xp xc w5 hta5 hl (by rw [hps5]; exact hat5.st) HST.out hlen5 (by omega) HXN.out.1 HXN.out.2 (by omega) hord5
          rw [hps5] at hmake
          have HO5 : Hid (OrdAt w5 xp X B g) := hord5
          clear hta5 hps5 hk5 hat5 hord5 hlen5 hnote HRA4
          go_wp2_with fail
          refine hmake.mono ?_
          rintro e w6 ⟨⟨rfl, ps6, hta6, hps6⟩, hk6⟩
          have HR6 : Hid (RunAt (R1 w) w w6 B g n gc R X xp ts0 ticks (t + 1) ps6) := ⟨hta6, hps6, HRUN.out, HO5.out.keep hk6, HAT.out (t + 1)⟩
          clear hta6 hps6 hk6 hmake
          go_wp2
          go_roundw
          case rel => exact ⟨t + 1, ps6, by go_num, by omega, HR6⟩
          case measure => simp [intOf]; omega
    · have hte : t = ticks := by omega
      subst hte
      have hrun := hra.run
      rw [Nat.sub_self, runL] at hrun
      have HRUN : Hid (runL X t 0 ts0 = (1, t, simL X ts0 t)) := hrun
      have htell1 := fun w3 h3 => htell 1 w3 h3
      have hrefl : Below wr.heap.size wr wr := Below.refl _ _
      clear hra hwf hrun htell
      go_wp2_with fail
      refine (htell1 wr hrefl).mono ?_
      rintro e w9 ⟨⟨ov, mv, vs, BB, hBB, rfl, hTL⟩, hb9⟩
      obtain ⟨op, on, oc, hoe⟩ := own_isSlice hTL.outs
      subst hoe
      obtain ⟨mp, mn, mc, hme⟩ := own_isSlice hTL.most
      subst hme
      have hall : Below (R1 w).heap.size (R1 w) w9 := hbelr.trans (hb9.mono hbelr.size)
      have hz9 := hall.size
      rw [hRs] at hz9
      have hRr := hR1.below hall (by rw [hRs]; omega)
      obtain ⟨r0, r1, r2, r3, f0, f1, f2, f3⟩ := hRr.c
      have HTL : Hid (TLo BB w9 (.slice op on oc) (.slice mp mn mc) vs _ _) := hTL
      have HBB : Hid (w.heap.size < BB) := by show w.heap.size < BB; have := hrefl.size; omega
      clear hTL
      go_wp2
      have hset := hRr.set 1 t (.slice op on oc) (.slice mp mn mc)
      have q := fun j => cell_of_row _ _ j _ _ _ hset
      have q0 := q 0
      have q1 := q 1
      have q2 := q 2
      have q3 := q 3
      simp only [List.getElem?_toArray, List.getElem?_cons_zero, List.getElem?_cons_succ] at q0 q1 q2 q3
      refine bodyPost_ret (v := .tuple #[.agg #[.int .i64 1, .int .i64 t, .slice op on oc, .slice mp mn mc], .int .i64 0]) (by simp [results, Try.results32, go_sem, q0, q1, q2, q3]) rfl ⟨?_, ?_⟩
      · exact ⟨X, HO.out, _, _, vs, BB, _, _, _, Nat.le_of_lt HBB.out, by rw [← HTS.out]; exact HRUN.out, rfl, (((HTL.out.set HBB.out 0 _).set HBB.out 1 _).set HBB.out 2 _).set HBB.out 3 _⟩
      · exact (((((hRb.trans (hall.mono (by rw [hRs]; omega))).setCell (Nat.le_refl _) _).setCell (Nat.le_refl _) _).setCell (Nat.le_refl _) _).setCell (Nat.le_refl _) _)
end Go.Proofs.Ytfbkjopidjojeab

