/-
  Walks over package source: Read.
-/
import Derived.Test.YtfbkjopidjojeabCi
namespace Go.Proofs.Ytfbkjopidjojeab
open Go.RowKit

theorem Try.info85 : (Try.prog.info? 85).map (fun i => (i.zero, i.size, i.bytes)) = some (some (.agg #[.int .i64 0, .int .i64 0, .string ⟨#[]⟩, .slice none 0 0, .int .i64 0, .string ⟨#[]⟩, .string ⟨#[]⟩]), 7, 96) := by kernel_rfl
theorem Try.under61 : Try.prog.underlying 61 = some (.slice 85) := by kernel_rfl

/-- Lines, each with where its names lie, as cells. -/
def lnRows (ps : List (Ln × Value)) : List Value := ps.flatMap fun p => lnCells p.1 p.2
theorem lnRows_length (ps : List (Ln × Value)) : (lnRows ps).length = ps.length * 7 := by
  induction ps with
  | nil => rfl
  | cons p ps ih => rw [lnRows, List.flatMap_cons, List.length_append]; rw [lnRows] at ih; rw [ih]; simp [lnCells]; omega
theorem lnRows_get (ps : List (Ln × Value)) : ∀ (k j : Nat) (h : k < ps.length), j < 7 → (lnRows ps)[k * 7 + j]? = (lnCells ps[k].1 ps[k].2)[j]? := by
  induction ps with
  | nil => intro k j h; simp at h
  | cons p ps ih =>
    intro k j h hj
    have e : lnRows (p :: ps) = lnCells p.1 p.2 ++ lnRows ps := by simp [lnRows]
    rw [e]
    cases k with
    | zero => rw [List.getElem?_append_left (by simp [lnCells]; omega)]; simp
    | succ k =>
      rw [List.getElem?_append_right (by simp [lnCells]; omega)]
      have : (k + 1) * 7 + j - (lnCells p.1 p.2).length = k * 7 + j := by simp [lnCells]; omega
      rw [this, ih k j (by simpa using h) hj]; simp

/-- Lines in rows of their own. -/
def LinesAt (w : World) (B : Nat) (v : Value) (ps : List (Ln × Value)) : Prop :=
  w.ownsRow B 85 7 v ps.length (lnRows ps) ∧ ∀ p ∈ ps, w.ownsRow B 9 1 p.2 p.1.uses.length (strs p.1.uses)
theorem own_ne {w : World} {B B' : Nat} {e e' : TypeId} {s s' n n' : Nat} {v v' : Value} {xs xs' : List Value} (h : w.ownsRow B e s v n xs) (h' : w.ownsRow B' e' s' v' n' xs') (he : e ≠ e') : v.ownBlock = none ∨ v.ownBlock ≠ v'.ownBlock := by
  rcases h.2 with ⟨rfl, _⟩ | ⟨g, cap, cur, rfl, _, hg, _⟩
  · exact .inl rfl
  · right
    rcases h'.2 with ⟨rfl, _⟩ | ⟨g', cap', cur', rfl, _, hg', _⟩
    · simp [Value.ownBlock]
    · simp only [Value.ownBlock, ne_eq, Option.some.injEq]
      intro hgg
      have hgg : g = g' := hgg
      subst hgg
      rw [hg] at hg'
      injection hg' with hg'
      injection hg' with _ h2 _
      exact he h2
theorem LinesAt.app {w wr w2 w' : World} {B : Nat} {r v' u : Value} {ps : List (Ln × Value)} {l : Ln} {o1 o2 : Obj} {Bu : Nat} (h : LinesAt wr B r ps) (hB : B ≤ wr.heap.size) (hnx : Below B w wr) (hb2 : Below wr.heap.size wr w2)
    (hu : w2.ownsRow Bu 9 1 u l.uses.length (strs l.uses)) (hBu : wr.heap.size ≤ Bu) (hown' : w'.ownsRow B 85 7 v' (ps.length + 1) (lnRows ps ++ lnCells l u)) (hg : ((w2.alloc o1).alloc o2).grownBy w' r.ownBlock) :
    LinesAt w' B v' (ps ++ [(l, u)]) ∧ Below B w w' := by
  have hz := hb2.size
  have hr2 : ((w2.alloc o1).alloc o2).ownsRow B 85 7 r ps.length (lnRows ps) := ((ownsRow_below h.1 hb2).alloc o1).alloc o2
  refine ⟨⟨by simpa [lnRows] using hown', fun p hp => ?_⟩, ?_⟩
  · rcases List.mem_append.1 hp with hp | hp
    · have h1 := ((ownsRow_below (h.2 p hp) hb2).alloc o1).alloc o2
      exact h1.kept hg (own_ne h1 hr2 (by decide))
    · rw [List.mem_singleton.1 hp]
      have h1 := (((own_mono hu (Nat.le_trans hB hBu)).alloc o1).alloc o2)
      exact h1.kept hg (own_ne h1 hr2 (by decide))
  · exact (((hnx.trans (hb2.mono hB)).alloc (by omega) o1).alloc (by simp; omega) o2).grown hg (by simp; omega) (fun j hj => (h.1.lt j hj).1)
theorem cells_new (W : World) (xs : List Value) (t : TypeId) (b : Nat) (hb : W.heap.size = b) : ∀ j u, xs[j]? = some u → (W.alloc (.cells xs.toArray t)).cell? ((⟨b, 0, none⟩ : Addr).add j) = some u := by
  subst hb
  intro j u hu
  have e : (⟨W.heap.size, 0, none⟩ : Addr).add j = ⟨W.heap.size, j, none⟩ := by unfold Addr.add; split <;> simp_all
  rw [e, cell_of_row _ _ j _ _ _ (heap_alloc_new W _)]
  simpa using hu
theorem cutL_len (m : UInt8) (l : List UInt8) : (cutL m l).length ≤ l.length + 1 ∧ ∀ p ∈ cutL m l, p.length ≤ l.length := by
  induction l with
  | nil => simp [cutL]
  | cons c r ih =>
    unfold cutL
    split
    · refine ⟨by simp; exact ih.1, fun p hp => ?_⟩
      rcases List.mem_cons.1 hp with rfl | hp
      · simp
      · have := ih.2 p hp; simp; omega
    · split
      · simp
      · rename_i h t e
        rw [e] at ih
        refine ⟨by have := ih.1; simp at this ⊢; omega, fun p hp => ?_⟩
        rcases List.mem_cons.1 hp with rfl | hp
        · have := ih.2 h (by simp); simp; omega
        · have := ih.2 p (by simp [hp]); simp; omega
theorem filL_len (L : List (List UInt8)) : (filL L).length ≤ L.length ∧ ∀ p ∈ filL L, p ∈ L := ⟨List.length_filter_le _ _, fun _ hp => (List.mem_filter.1 hp).1⟩
theorem pieces_len {r : List UInt8} (h : r.length ≤ 800) : (filL (cutL 32 r)).length ≤ 1048576 ∧ ∀ p ∈ filL (cutL 32 r), p.length ≤ 1048576 := by
  have h1 := cutL_len 32 r
  have h2 := filL_len (cutL 32 r)
  exact ⟨by omega, fun p hp => by have := h1.2 p (h2.2 p hp); omega⟩

/-- How far Read has come. -/
def ReadAt (R : List (List UInt8)) (k : Nat) (ls : List Ln) : Prop := readL 0 R = match readL k (R.drop k) with
  | .error e => .error e
  | .ok m => .ok (ls ++ m)
theorem ReadAt.start (R : List (List UInt8)) : ReadAt R 0 [] := by
  unfold ReadAt; rw [List.drop_zero]; cases readL 0 R <;> simp
theorem ReadAt.skip {R : List (List UInt8)} {k : Nat} {ls : List Ln} (h : ReadAt R k ls) (hk : k < R.length) (he : filL (cutL 32 R[k]) = []) : ReadAt R (k + 1) ls := by
  unfold ReadAt at h ⊢
  rw [List.drop_eq_getElem_cons hk, readL, he] at h
  exact h
theorem ReadAt.bad {R : List (List UInt8)} {k : Nat} {ls : List Ln} (h : ReadAt R k ls) (hk : k < R.length) (he : (filL (cutL 32 R[k])).isEmpty = false) (hp : parseL (filL (cutL 32 R[k])) = none) : readL 0 R = .error (k + 1) := by
  unfold ReadAt at h
  rw [List.drop_eq_getElem_cons hk, readL] at h
  rw [h]
  simp only [he, hp]
  rfl
theorem ReadAt.good {R : List (List UInt8)} {k : Nat} {ls : List Ln} {l : Ln} (h : ReadAt R k ls) (hk : k < R.length) (he : (filL (cutL 32 R[k])).isEmpty = false) (hp : parseL (filL (cutL 32 R[k])) = some l) : ReadAt R (k + 1) (ls ++ [{ l with no := k + 1 }]) := by
  unfold ReadAt at h ⊢
  rw [List.drop_eq_getElem_cons hk, readL] at h
  rw [h]
  simp only [he, hp]
  cases readL (k + 1) (R.drop (k + 1)) <;> simp
theorem ReadAt.fin {R : List (List UInt8)} {k : Nat} {ls : List Ln} (h : ReadAt R k ls) (hk : ¬ k < R.length) : readL 0 R = .ok ls := by
  unfold ReadAt at h
  rw [List.drop_of_length_le (by omega)] at h
  rw [h]; simp [readL]

/-- What Read gives. -/
def SrcIs (B : Nat) (o : Except Flt (List Ln)) (e : Ending) (w' : World) : Prop :=
  (∃ f : Flt, o = .error f ∧ e = .returned (.tuple #[.slice none 0 0, .agg #[.int .i64 f.1, .int .i64 f.2]])) ∨
  ∃ ps v, o = .ok (ps.map Prod.fst) ∧ ps.length ≤ 24 ∧ e = .returned (.tuple #[v, .agg #[.int .i64 0, .int .i64 0]]) ∧ LinesAt w' B v ps

/-- A fault in a block of its own. -/
def FltB (w : World) (b : Nat) (x y : Int) : Prop := w.heap[b]? = some (.cells #[.int .i64 x, .int .i64 y] 30 (0, 0))
theorem FltB.c {w : World} {b : Nat} {x y : Int} (h : FltB w b x y) : w.cell? ⟨b, 0, none⟩ = some (.int .i64 x) ∧ w.cell? ⟨b, 1, none⟩ = some (.int .i64 y) ∧ w.frozen? ⟨b, 0, none⟩ = false ∧ w.frozen? ⟨b, 1, none⟩ = false :=
  ⟨by rw [cell_of_row w b 0 _ _ _ h]; rfl, by rw [cell_of_row w b 1 _ _ _ h]; rfl, frozen_of_row w b 0 _ _ h, frozen_of_row w b 1 _ _ h⟩
theorem FltB.below {w w' : World} {B b : Nat} {x y : Int} (h : FltB w b x y) (hb : Below B w w') (hB : b < B) : FltB w' b x y := by
  unfold FltB; rw [hb.block b hB]; exact h
/-- The world with a fault of nothing. -/
def G1 (w : World) : World := w.alloc (Obj.cells #[.int .i64 0, .int .i64 0] 30)
theorem G1_size (w : World) : (G1 w).heap.size = w.heap.size + 1 := by simp [G1]
theorem G1_below (w : World) : Below w.heap.size w (G1 w) := (Below.refl w.heap.size w).alloc (Nat.le_refl _) _
theorem G1_f (w : World) : FltB (G1 w) w.heap.size 0 0 := by
  unfold FltB G1; rw [heap_alloc_new]
theorem FltB.set {w : World} {b : Nat} {x y : Int} (h : FltB w b x y) (x' y' : Int) : FltB ((w.setCell ⟨b, 0, none⟩ (.int .i64 x')).setCell ⟨b, 1, none⟩ (.int .i64 y')) b x' y' := by
  have h1 : w.heap[b]? = some (.cells [Value.int .i64 x, .int .i64 y].toArray 30 (0, 0)) := h
  exact blk_set (j := 1) (blk_set (j := 0) h1 (.int .i64 x')) (.int .i64 y')

set_option maxRecDepth 50000 in
set_option maxHeartbeats 1000000 in
theorem Read_long (s : ByteArray) (w : World) (hs : 800 < s.size) (hs2 : s.size ≤ maxLen) :
    Calls Try.prog 30 #[.string s] w fun e w' => SrcIs w.heap.size (sourceL s.data.toList) e w' ∧ Below w.heap.size w w' := by
  unfold maxLen at hs2
  have hl : s.data.toList.length = s.size := by simp
  have HP : Hid (sourceL s.data.toList = .error (4, 0)) := by show sourceL _ = _; simp [sourceL]; omega
  clear hl
  go_enter Try.func30, Try.ntmps30
  go_wp2
  refine bodyPost_ret (v := .tuple #[.slice none 0 0, .agg #[.int .i64 4, .int .i64 0]]) (by simp [results, Try.results30, go_sem]) rfl ⟨?_, ?_⟩
  · exact .inl ⟨(4, 0), HP.out, rfl⟩
  · exact (Below.refl _ _).alloc (Nat.le_refl _) _

set_option maxRecDepth 50000 in
set_option maxHeartbeats 2000000 in
theorem Read_short (s : ByteArray) (w : World) (hs : s.size ≤ 800) :
    Calls Try.prog 30 #[.string s] w fun e w' => SrcIs w.heap.size (sourceL s.data.toList) e w' ∧ Below w.heap.size w w' := by
  obtain ⟨i0, hi, hz0, hz1, hz2⟩ := info_parts Try.info85
  have hl : s.data.toList.length = s.size := by simp
  obtain ⟨R, hR⟩ : ∃ R, R = cutL 10 s.data.toList := ⟨_, rfl⟩
  have hRl : R.length ≤ 801 := by rw [hR]; have := (cutL_len 10 s.data.toList).1; omega
  have hRs : ∀ p ∈ R, p.length ≤ 800 := fun p hp => by rw [hR] at hp; have := (cutL_len 10 s.data.toList).2 p hp; omega
  have HP : Hid (sourceL s.data.toList = finL (readL 0 R)) := by
    show sourceL _ = _
    unfold sourceL
    rw [if_neg (by omega), hR]
  have hcut := cut_any s 10 10 (G1 w) (by omega) rfl
  rw [← hR] at hcut
  clear hl hR
  have hf0 := G1_f w
  go_enter Try.func30, Try.ntmps30
  go_wp2_with fail
  refine hcut.mono ?_
  rintro e w1 ⟨⟨v, rfl, hrows⟩, hb1⟩
  clear hcut
  have hz1' := hb1.size
  rw [G1_size] at hz1'
  have hf1 := hf0.below hb1 (by rw [G1_size]; omega)
  obtain ⟨_, p, cap, rfl, hcap, hrow⟩ := Reads.of hrows
  clear hrows hf0
  go_wp2
  go_loopw [5, 6] (fun r i wr => ∃ (k : Nat) (ps : List (Ln × Value)), i = .int .i64 k ∧ k ≤ R.length ∧ ps.length ≤ k ∧ Hid (ReadAt R k (ps.map Prod.fst)) ∧ LinesAt wr w1.heap.size r ps ∧ Below w1.heap.size w1 wr)
    (fun _ i _ => R.length - (intOf i).toNat)
  case atStart => exact ⟨0, [], rfl, Nat.zero_le _, Nat.le_refl _, ReadAt.start R, ⟨World.ownsRow_made w1 #[] 0 (Nat.le_refl _) (by unfold maxLen; omega) rfl, fun p hp => by simp at hp⟩, (Below.refl _ _).alloc (Nat.le_refl _) _⟩
  case round =>
    obtain ⟨k, ps, rfl, hk, hpk, HR, hlines, hnx⟩ := hrel
    have hsz := hnx.size
    have hfr := hf1.below hnx (by omega)
    by_cases hlt : k < R.length
    · obtain ⟨b, off, rfl, hr⟩ : ∃ b off, p = some ⟨b, off, none⟩ ∧ Row w1 b off (strs R) := by
        rcases hrow with h | h
        · omega
        · exact h
      have hc : wr.cell? ⟨b, off + k, none⟩ = some (.string (S R[k])) := by
        rw [(hr.below hnx hr.1).2 k (by rw [strs_length]; exact hlt), strs_get hlt]
      have hRk : R[k].length ≤ 800 := hRs _ (List.getElem_mem _)
      obtain ⟨hp1, hp2⟩ := pieces_len hRk
      clear hrow
      go_wp2_with fail
      refine (cut_any (S R[k]) 32 32 wr (by rw [S_size]; omega) rfl).mono ?_
      rintro e w2 ⟨⟨v2, rfl, hrows2⟩, hb2⟩
      rw [S_data] at hrows2
      go_wp2_with fail
      refine (filled_any (cutL 32 R[k]) v2 w2 (by have := (cutL_len 32 R[k]).1; omega) (Reads.of hrows2)).mono ?_
      rintro e w3 ⟨⟨v3, rfl, hrows3⟩, hb3⟩
      obtain ⟨Q, hQ⟩ : ∃ Q, Q = filL (cutL 32 R[k]) := ⟨_, rfl⟩
      rw [← hQ] at hrows3 hp1 hp2
      have HQ : Hid (Q = filL (cutL 32 R[k])) := hQ
      have hb13 : Below wr.heap.size wr w3 := hb2.trans (hb3.mono hb2.size)
      have hrd3 := Reads.of hrows3
      obtain ⟨_, p3, cap3, rfl, hcap3, hrow3⟩ := hrd3
      have hrd3 := Reads.of hrows3
      clear hQ hrows2 hb2 hb3 hrow3
      by_cases hQ0 : Q.length = 0
      · have hQe : Q = [] := List.length_eq_zero_iff.1 hQ0
        have HR2 := HR.out.skip hlt (by rw [← HQ.out]; exact hQe)
        have HR3 : Hid (ReadAt R (k + 1) (ps.map Prod.fst)) := HR2
        have hlines3 : LinesAt w3 w1.heap.size _ ps := ⟨ownsRow_below hlines.1 hb13, fun p hp => ownsRow_below (hlines.2 p hp) hb13⟩
        clear hlines hrd3 hrows3 hQe
        go_wp2
        go_roundw
        case rel => exact ⟨k + 1, ps, by go_num, by omega, by omega, HR3, hlines3, hnx.trans (hb13.mono (by omega))⟩
        case measure => simp [intOf]; omega
      · have hQ1 : (Q.isEmpty) = false := by
          cases Q with
          | nil => simp at hQ0
          | cons _ _ => rfl
        go_wp2_with fail
        refine (parse_any Q _ w3 hp1 hp2 hrd3).mono ?_
        rintro e w4 ⟨hF, hb4⟩
        have hb14 : Below wr.heap.size wr w4 := hb13.trans (hb4.mono hb13.size)
        have hf4 := hfr.below hb14 (by omega)
        obtain ⟨fc0, fc1, ff0, ff1⟩ := hf4.c
        have hz4 := hb14.size
        have hlt4 : w.heap.size < w4.heap.size := by omega
        have HF : Hid (Filled w3.heap.size (parseL Q) e w4) := hF
        have hz3 := hb13.size
        clear hF hrd3 hrows3 hb4
        rcases HF.out with ⟨h1, rfl⟩ | ⟨l, u, h1, rfl, hown⟩
        · have HN := HR.out.bad hlt (by rw [← HQ.out]; exact hQ1) (by rw [← HQ.out]; exact h1)
          have HN2 : Hid (readL 0 R = .error (k + 1)) := HN
          clear HF h1 HN hQ1
          go_wp2
          have hfs := (hf4.set 5 (k + 1)).below ((Below.refl _ _).alloc (Nat.le_refl _) (Obj.cells #[Value.int IntKind.i64 0, Value.int IntKind.i64 0, Value.string { data := #[] }, Value.slice none 0 0, Value.int IntKind.i64 0, Value.string { data := #[] }, Value.string { data := #[] }] 85)) (by simpa [World.setCell] using hlt4)
          obtain ⟨q0, q1, _, _⟩ := hfs.c
          refine bodyPost_ret (v := .tuple #[.slice none 0 0, .agg #[.int .i64 5, .int .i64 (k + 1)]]) (by simp [results, Try.results30, go_sem, q0, q1]) rfl ⟨?_, ?_⟩
          · exact .inl ⟨(5, k + 1), by rw [HP.out, HN2.out]; rfl, rfl⟩
          · have hbb : Below w.heap.size w w4 := (((G1_below w).trans (hb1.mono (by rw [G1_size]; omega))).trans (hnx.mono (by omega))).trans (hb14.mono (by omega))
            exact ((hbb.setCell (Nat.le_refl _) _).setCell (Nat.le_refl _) _).alloc (by simp [World.setCell]; omega) _
        · have HN := HR.out.good hlt (by rw [← HQ.out]; exact hQ1) (by rw [← HQ.out]; exact h1)
          have HN2 : Hid (ReadAt R (k + 1) (ps.map Prod.fst ++ [{ l with no := k + 1 }])) := HN
          obtain ⟨up, un, uc, rfl⟩ := own_isSlice hown
          have hlines4 := ownsRow_below hlines.1 hb14
          clear HF h1 HN hQ1
          have hps : ps.length ≤ 801 := by omega
          go_wp2_with (at_builtin; refine wpList_append_own _ rfl _ _ 61 rfl w1.heap.size 85 i0 (.agg #[.int .i64 0, .int .i64 0, .string ⟨#[]⟩, .slice none 0 0, .int .i64 0, .string ⟨#[]⟩, .string ⟨#[]⟩]) 7 96 Try.under61 hi hz0 hz1 hz2 rfl (by decide) _ _ _ rfl ((hlines4.alloc _).alloc _) ⟨w4.heap.size + 1, 0, none⟩ 1 1 [.int .i64 (k + 1), .int .i64 l.kind, .string (S l.name), .slice up un uc, .int .i64 l.num, .string (bs l.wd.1), .string (bs l.wd.2)] rfl rfl (cells_new _ _ _ _ (by simp)) (by intro x hx; simp at hx; rcases hx with rfl | rfl | rfl | rfl | rfl | rfl | rfl <;> rfl) (by unfold maxLen; omega) (by omega) (by simp; omega) ?_; intro v' w' hown' hgrow _)
          have R2 := hlines.app (l := { l with no := k + 1 }) (by omega) hnx hb14 hown (by omega) hown' hgrow
          clear hown' hgrow hlines hlines4 hown
          go_wp2
          go_roundw
          case rel => exact ⟨k + 1, ps ++ [({ l with no := k + 1 }, .slice up un uc)], by go_num, by omega, by simp; omega, by rw [List.map_append]; exact HN2, R2.1, R2.2⟩
          case measure => simp [intOf]; omega
    · have HN := HR.out.fin hlt
      have HN2 : Hid (sourceL s.data.toList = finL (.ok (ps.map Prod.fst))) := by show sourceL _ = _; rw [HP.out, HN]
      have hbb : Below w.heap.size w wr := ((G1_below w).trans (hb1.mono (by rw [G1_size]; omega))).trans (hnx.mono (by omega))
      obtain ⟨fc0, fc1, ff0, ff1⟩ := hfr.c
      have hltr : w.heap.size < wr.heap.size := by omega
      clear HN hrow
      obtain ⟨_, pp, pc, hpe, hpc, hprow⟩ := Reads.of hlines.1
      have hq := (hf1.below hnx (by omega))
      by_cases h24 : 24 < ps.length
      · obtain ⟨g, gc, hge⟩ := own_form hlines.1 (by omega)
        subst hge
        have hcg : wr.cell? ⟨g, 168, none⟩ = some (.int .i64 (ps[24].1.no : Int)) := by
          have h1 := hlines.1.cellAt 168 (by omega)
          rw [h1]
          have h2 := lnRows_get ps 24 0 h24 (by omega)
          exact h2
        have hI : (24 : Int) < (ps.length : Int) := by omega
        have HN3 : Hid (sourceL s.data.toList = .error (6, ps[24].1.no)) := by
          show sourceL _ = _
          rw [HN2.out]
          have : (ps.map Prod.fst)[24]? = some ps[24].1 := by simp [h24]
          simp only [finL, this]
        obtain ⟨no, hno⟩ : ∃ no, no = ps[24].1.no := ⟨_, rfl⟩
        rw [← hno] at hcg HN3
        clear hprow hpe hno
        go_wp2
        go_region
        go_wp2
        have hset := hq.set 6 no
        obtain ⟨q0, q1, _, _⟩ := FltB.c (w := ((wr.setCell ⟨w.heap.size, 0, none⟩ (.int .i64 6)).setCell ⟨w.heap.size, 1, none⟩ (.int .i64 no)).drew) hset
        refine bodyPost_ret (v := .tuple #[.slice none 0 0, .agg #[.int .i64 6, .int .i64 no]]) (by simp [results, Try.results30, go_sem, q0, q1]) rfl ⟨?_, ?_⟩
        · exact .inl ⟨(6, no), HN3.out, rfl⟩
        · exact ((hbb.setCell (Nat.le_refl _) _).setCell (Nat.le_refl _) _).drew
      · have hno : (ps.map Prod.fst)[24]? = none := by rw [List.getElem?_eq_none]; simp; omega
        have HN3 : Hid (sourceL s.data.toList = .ok (ps.map Prod.fst)) := by
          show sourceL _ = _
          rw [HN2.out]
          simp only [finL, hno]
        rw [hpe]
        clear hno
        go_wp2
        obtain ⟨q0, q1, _, _⟩ := (hq.set 0 0).c
        refine bodyPost_ret (v := .tuple #[.slice pp ps.length pc, .agg #[.int .i64 0, .int .i64 0]]) (by simp [results, Try.results30, go_sem, q0, q1]) rfl ⟨?_, ?_⟩
        · refine .inr ⟨ps, _, HN3.out, by omega, rfl, ?_, fun p hp => ?_⟩
          · rw [← hpe]
            exact own_mono (ownsRow_setCell_below (ownsRow_setCell_below hlines.1 (by show w.heap.size < _; omega) _) (by show w.heap.size < _; omega) _) (by omega)
          · exact own_mono (ownsRow_setCell_below (ownsRow_setCell_below (hlines.2 p hp) (by show w.heap.size < _; omega) _) (by show w.heap.size < _; omega) _) (by omega)
        · exact (hbb.setCell (Nat.le_refl _) _).setCell (Nat.le_refl _) _

theorem Read_any (s : ByteArray) (w : World) (hs : s.size ≤ maxLen) :
    Calls Try.prog 30 #[.string s] w fun e w' => SrcIs w.heap.size (sourceL s.data.toList) e w' ∧ Below w.heap.size w w' := by
  by_cases h : 800 < s.size
  · exact Read_long s w h hs
  · exact Read_short s w (by omega)
end Go.Proofs.Ytfbkjopidjojeab
