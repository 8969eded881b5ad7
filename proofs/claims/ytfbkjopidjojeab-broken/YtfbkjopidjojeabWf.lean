/-
  Walks, part f: Not, Either, On of package word.
-/
import Derived.Test.YtfbkjopidjojeabWe
namespace Go.Proofs.Ytfbkjopidjojeab
open Go.RowKit

theorem Try.info5 : (Try.prog.info? 5).map (fun i => (i.zero, i.size, i.bytes)) = some (some (.int .u8 0), 1, 1) := by kernel_rfl

/-- Bits as cells. -/
def cellsOf (l : List Bool) : List Value := l.map fun x => .int .u8 ((bb x).toNat : Int)
theorem cellsOf_length (l : List Bool) : (cellsOf l).length = l.length := by simp [cellsOf]

theorem ownsRow_below {w w' : World} {base : Nat} {e : TypeId} {size : Nat} {v : Value} {n : Nat} {xs : List Value} (h : w.ownsRow base e size v n xs) (hb : Below w.heap.size w w') : w'.ownsRow base e size v n xs := by
  obtain ⟨h1, h2⟩ := h
  refine ⟨h1, ?_⟩
  rcases h2 with h2 | ⟨g, cap, cur, hv, hg, hh, hr⟩
  · exact .inl h2
  · have hlt : g < w.heap.size := by
      rcases Nat.lt_or_ge g w.heap.size with q | q
      · exact q
      · rw [Array.getElem?_eq_none q] at hh; cases hh
    exact .inr ⟨g, cap, cur, hv, hg, by rw [hb.block g hlt]; exact hh, hr⟩

theorem EP_map {f : Nat → Bool} {m p : Nat} {g : Bool → Bool} (h : EP f m p) : EP (fun n => g (f n)) m p := ⟨h.1, fun n hn => by simp only [h.2 n hn]⟩
theorem tab_succ (f : Nat → Bool) (k : Nat) : tab f 0 (k + 1) = tab f 0 k ++ [f k] := by
  unfold tab; rw [List.range_succ, List.map_append]; simp
theorem cellsOf_succ (f : Nat → Bool) (k : Nat) : cellsOf (tab f 0 (k + 1)) = cellsOf (tab f 0 k) ++ [.int .u8 ((bb (f k)).toNat : Int)] := by
  rw [tab_succ]; simp [cellsOf]

/-- A row of its own that holds bits. -/
theorem own_held {w : World} {base n : Nat} {v : Value} {l : List Bool} (h : w.ownsRow base 5 1 v n (cellsOf l)) (hn : 0 < n) :
    ∃ g cap, v = .slice (some ⟨g, 0, none⟩) n cap ∧ base ≤ g ∧ g < w.heap.size ∧ n ≤ cap ∧ l.length = n ∧ Held w g 0 l := by
  obtain ⟨h1, h2⟩ := h
  rcases h2 with h2 | ⟨g, cap, cur, hv, hg, hh, hc, _, hs, ht⟩
  · omega
  · have hlt : g < w.heap.size := by
      rcases Nat.lt_or_ge g w.heap.size with q | q
      · exact q
      · rw [Array.getElem?_eq_none q] at hh; cases hh
    rw [cellsOf_length, Nat.mul_one] at h1
    refine ⟨g, cap, hv, hg, hlt, hc, h1, fun i hi => ?_⟩
    have hcell := World.ownsRow.cells (w := w) (base := base) (e := 5) (size := 1) (v := v) (n := n) (xs := cellsOf l) ⟨by rw [cellsOf_length, Nat.mul_one]; exact h1, .inr ⟨g, cap, cur, hv, hg, hh, hc, by assumption, hs, ht⟩⟩ (g := g) (by rw [hv]; rfl) i (.int .u8 ((bb (l.getD i false)).toNat : Int)) (by rw [getD_lt hi]; simp [cellsOf, hi])
    have e : (⟨g, 0, none⟩ : Addr).add i = ⟨g, 0 + i, none⟩ := by unfold Addr.add; split <;> simp_all
    rw [e] at hcell; exact hcell

/-- A word that means the stream f, with its shortest parts; how long they are at most. -/
def WordIs (f : Nat → Bool) (a b : Nat) (e : Ending) : Prop := ∃ u v : List Bool, e = .returned (.agg #[.string (bs u), .string (bs v)]) ∧ NF f u v ∧ u.length ≤ a ∧ v.length ≤ b

theorem norm_tab {f : Nat → Bool} {lead p : Nat} {e : Ending} (hE : EP f lead p) (h : Norm (tab f 0 (lead + p)) lead e) : WordIs f lead p e := by
  obtain ⟨u, v, he, hn, h1, h2⟩ := h
  refine ⟨u, v, he, hn.congr fun n => ?_, h1, by rw [tab_length] at h2; omega⟩
  have hl : lead < (tab f 0 (lead + p)).length := by rw [tab_length]; have := hE.1; omega
  have a1 : (tab f 0 (lead + p)).take lead = tab f 0 lead := by
    have := tab_eq (f := f) (l := tab f 0 (lead + p)) (a := 0) (k := lead) (fun i hi => by rw [tab_getD _ _ _ _ (by omega)]; simp) (by omega)
    rw [List.drop_zero] at this; exact this.symm
  have a2 : (tab f 0 (lead + p)).drop lead = tab f lead p := by
    have := tab_eq (f := f) (l := tab f 0 (lead + p)) (a := lead) (k := p) (fun i hi => by rw [tab_getD _ _ _ _ (by omega)]; simp) (by rw [tab_length]; omega)
    rw [this, List.take_of_length_le (by rw [List.length_drop, tab_length]; omega)]
  rw [a1, a2]; exact bitAt_tab hE n

theorem normal_tab (f : Nat → Bool) (lead p n b cap : Nat) (w : World) (hE : EP f lead p) (hn : n = lead + p) (hl : n ≤ 1152921504606846976) (hcap : n ≤ cap) (hb : b < w.heap.size) (hc : Held w b 0 (tab f 0 n)) :
    Calls Try.prog 100 #[.slice (some ⟨b, 0, none⟩) n cap, .int .i64 lead] w fun e w' => WordIs f lead p e ∧ Below w.heap.size w w' := by
  subst hn
  have h := normal_any (tab f 0 (lead + p)) lead b 0 cap w (by rw [tab_length]; exact hl) (by rw [tab_length]; have := hE.1; omega) (by rw [tab_length]; exact hcap) hb hc
  rw [tab_length] at h
  exact h.mono fun e w' ⟨h1, h2⟩ => ⟨norm_tab hE h1, h2⟩

/-- One bit more at the end of the row. -/
theorem rel_app {W0 wr w1 w' : World} {B k : Nat} {r v' : Value} {f : Nat → Bool} {x : Bool} {o : Obj} (hB : B ≤ wr.heap.size) (hown : wr.ownsRow B 5 1 r k (cellsOf (tab f 0 k))) (hnx : Below B W0 wr) (hb1 : Below wr.heap.size wr w1)
    (hx : x = f k) (hown' : w'.ownsRow B 5 1 v' (k + 1) (cellsOf (tab f 0 k) ++ [.int .u8 ((bb x).toNat : Int)])) (hg : (w1.alloc o).grownBy w' r.ownBlock) :
    w'.ownsRow B 5 1 v' (k + 1) (cellsOf (tab f 0 (k + 1))) ∧ Below B W0 w' := by
  refine ⟨by rw [cellsOf_succ, ← hx]; exact hown', ?_⟩
  have h1 := (hnx.trans (hb1.mono hB)).alloc (o := o) (by have := hb1.size; omega)
  exact h1.grown hg (by have := hb1.size; simp; omega) (fun j hj => (hown.lt j hj).1)

theorem own_start (W : World) (B : Nat) (h : W.heap.size = B) : (W.alloc (.cells #[] 5)).ownsRow B 5 1 (.slice (some ⟨B, 0, none⟩) 0 0) 0 [] := by
  subst h
  exact World.ownsRow_made W #[] 0 (Nat.le_refl _) (by unfold maxLen; omega) rfl

/-- A word in a block of its own. -/
structure Boxed (w : World) (b : Nat) (x y : ByteArray) : Prop where
  c0 : w.cell? ⟨b, 0, none⟩ = some (.string x)
  c1 : w.cell? ⟨b, 1, none⟩ = some (.string y)
  f0 : w.frozen? ⟨b, 0, none⟩ = false
  f1 : w.frozen? ⟨b, 1, none⟩ = false
theorem Boxed.new (w : World) (b : Nat) (x y : ByteArray) (t : TypeId) (h : w.heap.size = b) : Boxed (w.alloc (.cells #[.string x, .string y] t)) b x y := by
  subst h; constructor <;> simp
theorem Boxed.below {w w' : World} {B b : Nat} {x y : ByteArray} (h : Boxed w b x y) (hB : Below B w w') (hb : b < B) : Boxed w' b x y :=
  ⟨by rw [hB.cell (p := ⟨b, 0, none⟩) hb]; exact h.c0, by rw [hB.cell (p := ⟨b, 1, none⟩) hb]; exact h.c1, by rw [hB.frozen (p := ⟨b, 0, none⟩) hb]; exact h.f0, by rw [hB.frozen (p := ⟨b, 1, none⟩) hb]; exact h.f1⟩
theorem Boxed.alloc {w : World} {b : Nat} {x y : ByteArray} (h : Boxed w b x y) (o : Obj) : Boxed (w.alloc o) b x y := by
  have hb : b < w.heap.size := by
    rcases Nat.lt_or_ge b w.heap.size with q | q
    · exact q
    · have := h.c0
      unfold World.cell? at this
      simp [Array.getElem?_eq_none q] at this
  exact h.below ((Below.refl w.heap.size w).alloc (Nat.le_refl _) o) hb

theorem Boxed.store {w : World} {b : Nat} {x y : ByteArray} (h : Boxed w b x y) (x' y' : ByteArray) : Boxed ((w.setCell ⟨b, 0, none⟩ (.string x')).setCell ⟨b, 1, none⟩ (.string y')) b x' y' := by
  have n1 : (⟨b, 1, none⟩ : Addr) ≠ ⟨b, 0, none⟩ := by intro e; injection e with _ e; cases e
  have n2 : (⟨b, 0, none⟩ : Addr) ≠ ⟨b, 1, none⟩ := fun e => n1 e.symm
  refine ⟨?_, ?_, ?_, ?_⟩
  · rw [World.cell?_setCell_other _ _ _ _ n1]; exact World.cell?_setCell_same _ _ _ h.c0
  · exact World.cell?_setCell_same _ _ _ (by rw [World.cell?_setCell_other _ _ _ _ n2]; exact h.c1)
  · rw [World.frozen?_setCell, World.frozen?_setCell]; exact h.f0
  · rw [World.frozen?_setCell, World.frozen?_setCell]; exact h.f1

set_option maxRecDepth 50000 in
set_option maxHeartbeats 1000000 in
theorem Not_any (u v : List Bool) (w : World) (hv0 : v ≠ []) (hu : u.length ≤ 1048576) (hv : v.length ≤ 1048576) :
    Calls Try.prog 101 #[.agg #[.string (bs u), .string (bs v)]] w fun e w' => WordIs (fun n => !bitAt u v n) u.length v.length e ∧ Below w.heap.size w w' := by
  obtain ⟨i0, hi, hz0, hz1, hz2⟩ := info_parts Try.info5
  have s1 : (bs u).size = u.length := bs_size u
  have s2 : (bs v).size = v.length := bs_size v
  go_enter Try.func101, Try.ntmps101
  go_wp2
  go_loopw [4, 5] (fun r i wr => ∃ k : Nat, k ≤ u.length + v.length ∧ i = .int .i64 k ∧ wr.ownsRow (w.heap.size + 1 + 1) 5 1 r k (cellsOf (tab (fun n => !bitAt u v n) 0 k)) ∧
      Below (w.heap.size + 1 + 1) ((w.alloc (Obj.cells #[Value.string (bs u), Value.string (bs v)] 74)).alloc (Obj.cells #[Value.string { data := #[] }, Value.string { data := #[] }] 74)) wr)
    (fun _ i _ => u.length + v.length - (intOf i).toNat)
  case atStart => exact ⟨0, by omega, rfl, own_start _ _ (by simp), (Below.refl _ _).alloc (by simp) _⟩
  case round =>
    obtain ⟨k, hk, rfl, hown, hnx⟩ := hrel
    have hsz := hnx.size
    simp at hsz
    obtain ⟨c0, c1, _, _⟩ := ((Boxed.new w _ (bs u) (bs v) _ rfl).alloc _).below hnx (by omega)
    by_cases hlt : k < u.length + v.length
    · go_wp2_with (first
        | (go_at_call 70; refine (bit_any u v k _ hv0 (by omega) (by omega) (by omega)).mono ?_; rintro e w1 ⟨rfl, hb1⟩; have hown1 := ownsRow_below hown hb1; have hz1' := hb1.size)
        | (go_at_call 99; refine (digit_any _ _).mono ?_; rintro e w2 ⟨rfl, hw2⟩; subst w2)
        | (at_builtin; refine wpList_append_own _ rfl _ _ 81 rfl (w.heap.size + 1 + 1) 5 i0 (.int .u8 0) 1 1 Try.under81 hi hz0 hz1 hz2 rfl (by decide) _ _ _ rfl (hown1.alloc _) ⟨w1.heap.size, 0, none⟩ 1 1 [.int .u8 ((bb (!bitAt u v k)).toNat : Int)] rfl rfl (cell_one_new _ _ _) (by intro x hx; simp at hx; subst hx; rfl) (by unfold maxLen; omega) (by omega) (by simp; omega) ?_; intro v' w' hown' hgrow _))
      have R := rel_app (by omega) hown hnx hb1 rfl hown' hgrow
      clear hown' hgrow hown hnx hown1 hb1 c0 c1
      go_wp2
      go_roundw
      case rel => exact ⟨k + 1, by omega, by go_num, R.1, R.2⟩
      case measure => simp [intOf]; omega
    · have : k = u.length + v.length := by omega
      obtain ⟨g, cap, hr, hg1, hg2, hcap, _, hheld⟩ := own_held hown (by have := List.length_pos_iff.2 hv0; omega)
      rw [hr]
      clear hown
      subst this
      have hE : EP (fun n => !bitAt u v n) u.length v.length := EP_map (EP_bitAt u v hv0)
      have hbx := (Boxed.new (w.alloc (Obj.cells #[Value.string (bs u), Value.string (bs v)] 74)) (w.heap.size + 1) ⟨#[]⟩ ⟨#[]⟩ 74 (by simp)).below hnx (by omega)
      go_wp2_with (go_at_call 100; refine (normal_tab (fun n => !bitAt u v n) u.length v.length _ g cap _ hE rfl (by omega) hcap hg2 hheld).mono ?_; rintro e w1 ⟨⟨x, y, rfl, hn, hx, hy⟩, hb1⟩; obtain ⟨d0, d1, e0, e1⟩ := hbx.below hb1 (by omega); have hz := hb1.size)
      have hst := (hbx.below hb1 (by omega)).store (bs x) (bs y)
      have q0 := hst.c0
      have q1 := hst.c1
      refine bodyPost_ret (v := .agg #[.string (bs x), .string (bs y)]) (by simp [results, Try.results101, go_sem, q0, q1]) rfl ⟨⟨x, y, rfl, hn, hx, hy⟩, ?_⟩
      exact (((((Below.refl w.heap.size w).alloc (Nat.le_refl _) _).alloc (by simp) _).trans (hnx.mono (by omega))).trans (hb1.mono (by omega))).setCell (Nat.le_succ _) _ |>.setCell (Nat.le_succ _) _
end Go.Proofs.Ytfbkjopidjojeab
