/-
  Walks over package plan: link.
-/
import Derived.Test.YtfbkjopidjojeabDb
namespace Go.Proofs.Ytfbkjopidjojeab
open Go.RowKit

theorem Try.info76 : (Try.prog.info? 76).map (fun i => (i.zero, i.size, i.bytes)) = some (some (.agg #[.int .i64 0, .int .i64 0, .string ⟨#[]⟩, .slice none 0 0, .int .i64 0, .string ⟨#[]⟩, .string ⟨#[]⟩, .string ⟨#[]⟩, .string ⟨#[]⟩]), 9, 128) := by kernel_rfl
theorem Try.under64 : Try.prog.underlying 64 = some (.slice 76) := by kernel_rfl

/-- A step as cells. -/
def stCells (l : St) (u : Value) : List Value := [.int .i64 l.no, .int .i64 l.kind, .string (S l.name), u, .int .i64 l.num, .string (bs l.wd.1), .string (bs l.wd.2), .string (bs l.ck.1), .string (bs l.ck.2)]
def stRows (qs : List (St × Value)) : List Value := qs.flatMap fun p => stCells p.1 p.2
theorem stRows_length (ps : List (St × Value)) : (stRows ps).length = ps.length * 9 := by
  induction ps with
  | nil => rfl
  | cons p ps ih => rw [stRows, List.flatMap_cons, List.length_append]; rw [stRows] at ih; rw [ih]; simp [stCells]; omega
theorem stRows_get (ps : List (St × Value)) : ∀ (k j : Nat) (h : k < ps.length), j < 9 → (stRows ps)[k * 9 + j]? = (stCells ps[k].1 ps[k].2)[j]? := by
  induction ps with
  | nil => intro k j h; simp at h
  | cons p ps ih =>
    intro k j h hj
    have e : stRows (p :: ps) = stCells p.1 p.2 ++ stRows ps := by simp [stRows]
    rw [e]
    cases k with
    | zero => rw [List.getElem?_append_left (by simp [stCells]; omega)]; simp
    | succ k =>
      rw [List.getElem?_append_right (by simp [stCells]; omega)]
      have : (k + 1) * 9 + j - (stCells p.1 p.2).length = k * 9 + j := by simp [stCells]; omega
      rw [this, ih k j (by simpa using h) hj]; simp

/-- Steps in rows of their own. -/
def StepsAt (w : World) (B : Nat) (v : Value) (qs : List (St × Value)) : Prop :=
  w.ownsRow B 76 9 v qs.length (stRows qs) ∧ ∀ p ∈ qs, w.ownsRow B 3 1 p.2 p.1.uses.length (ints p.1.uses)
theorem StepsAt.app {w wr w2 w' : World} {B : Nat} {r v' u : Value} {ps : List (St × Value)} {l : St} {o2 : Obj} {Bu : Nat} (h : StepsAt wr B r ps) (hB : B ≤ wr.heap.size) (hnx : Below B w wr) (hb2 : Below wr.heap.size wr w2)
    (hu : w2.ownsRow Bu 3 1 u l.uses.length (ints l.uses)) (hBu : wr.heap.size ≤ Bu) (hown' : w'.ownsRow B 76 9 v' (ps.length + 1) (stRows ps ++ stCells l u)) (hg : (w2.alloc o2).grownBy w' r.ownBlock) :
    StepsAt w' B v' (ps ++ [(l, u)]) ∧ Below B w w' := by
  have hz := hb2.size
  have hr2 : (w2.alloc o2).ownsRow B 76 9 r ps.length (stRows ps) := (ownsRow_below h.1 hb2).alloc o2
  refine ⟨⟨by simpa [stRows] using hown', fun p hp => ?_⟩, ?_⟩
  · rcases List.mem_append.1 hp with hp | hp
    · have h1 := (ownsRow_below (h.2 p hp) hb2).alloc o2
      exact h1.kept hg (own_ne h1 hr2 (by decide))
    · rw [List.mem_singleton.1 hp]
      have h1 := ((own_mono hu (Nat.le_trans hB hBu)).alloc o2)
      exact h1.kept hg (own_ne h1 hr2 (by decide))
  · exact ((hnx.trans (hb2.mono hB)).alloc (by omega) o2).grown hg (by simp; omega) (fun j hj => (h.1.lt j hj).1)

theorem own_start_step (W : World) (B b : Nat) (h : W.heap.size = b) (hB : B ≤ b) : (W.alloc (.cells #[] 76)).ownsRow B 76 9 (.slice (some ⟨b, 0, none⟩) 0 0) 0 [] := by
  subst h
  exact World.ownsRow_made W #[] 0 hB (by unfold maxLen; omega) rfl

/-- How far link has come. -/
def LinkAt (ls : List Ln) (k : Nat) (acc : List St) : Prop := linkL ls ls = match linkL ls (ls.drop k) with
  | .error f => .error f
  | .ok r => .ok (acc ++ r)
theorem LinkAt.start (ls : List Ln) : LinkAt ls 0 [] := by
  unfold LinkAt; rw [List.drop_zero]; cases linkL ls ls <;> simp
theorem LinkAt.bad {ls : List Ln} {k : Nat} {acc : List St} (h : LinkAt ls k acc) (hk : k < ls.length) (ho : ownersL ls ls[k].uses = none) : linkL ls ls = .error (8, ls[k].no) := by
  unfold LinkAt at h
  rw [List.drop_eq_getElem_cons hk, linkL] at h
  rw [h]; simp only [stepL, ho]; rfl
theorem LinkAt.good {ls : List Ln} {k : Nat} {acc : List St} {u : List Nat} (h : LinkAt ls k acc) (hk : k < ls.length) (ho : ownersL ls ls[k].uses = some u) : LinkAt ls (k + 1) (acc ++ [⟨ls[k].no, ls[k].kind, ls[k].name, u, ls[k].num, ls[k].wd, ([], [])⟩]) := by
  unfold LinkAt at h ⊢
  rw [List.drop_eq_getElem_cons hk, linkL] at h
  rw [h]; simp only [stepL, ho, Option.map_some]
  cases linkL ls (ls.drop (k + 1)) <;> simp
theorem LinkAt.fin {ls : List Ln} {k : Nat} {acc : List St} (h : LinkAt ls k acc) (hk : ¬ k < ls.length) : linkL ls ls = .ok acc := by
  unfold LinkAt at h
  rw [List.drop_of_length_le (by omega)] at h
  rw [h]; simp [linkL]

/-- What link gives. -/
def LinkIs (B : Nat) (o : Except Flt (List St)) (e : Ending) (w' : World) : Prop :=
  (∃ f : Flt, o = .error f ∧ e = .returned (.tuple #[.slice none 0 0, .agg #[.int .i64 f.1, .int .i64 f.2]])) ∨
  ∃ qs v, o = .ok (qs.map Prod.fst) ∧ e = .returned (.tuple #[v, .agg #[.int .i64 0, .int .i64 0]]) ∧ StepsAt w' B v qs

theorem map_get {α β : Type} {ps : List (α × β)} {k : Nat} (hk : k < (ps.map Prod.fst).length) : (ps.map Prod.fst)[k] = (ps[k]'(by simpa using hk)).1 := by simp

set_option maxRecDepth 50000 in
set_option maxHeartbeats 2000000 in
theorem link_any (ps : List (Ln × Value)) (p : Option Addr) (cap : Nat) (w : World) (hl : ps.length ≤ 24) (hu : ∀ q ∈ ps, q.1.uses.length ≤ 1048576) (hr : RL w p ps) :
    Calls Try.prog 42 #[.slice p ps.length cap] w fun e w' => LinkIs w.heap.size (linkL (ps.map Prod.fst) (ps.map Prod.fst)) e w' ∧ Below w.heap.size w w' := by
  obtain ⟨i0, hi, hz0, hz1, hz2⟩ := info_parts Try.info76
  have hf0 := G1_f w
  have HML : Hid ((ps.map Prod.fst).length = ps.length) := by show (ps.map Prod.fst).length = ps.length; simp
  go_enter Try.func42, Try.ntmps42
  go_wp2
  go_loopw [4, 5] (fun r i wr => ∃ (k : Nat) (qs : List (St × Value)), i = .int .i64 k ∧ k ≤ ps.length ∧ qs.length ≤ k ∧ Hid (LinkAt (ps.map Prod.fst) k (qs.map Prod.fst)) ∧ StepsAt wr (w.heap.size + 1) r qs ∧ Hid (Below (w.heap.size + 1) (G1 w) wr)) (fun _ i _ => ps.length - (intOf i).toNat)
  case atStart => exact ⟨0, [], rfl, Nat.zero_le _, Nat.le_refl _, LinkAt.start _, ⟨own_start_step _ _ _ (by simp) (Nat.le_refl _), fun p hp => by simp at hp⟩, (Below.refl _ _).alloc (by rw [G1_size]; omega) _⟩
  case round =>
    obtain ⟨k, qs, rfl, hk, hqk, HL, hsteps, HW⟩ := hrel
    have hnx := HW.out
    have hsz := hnx.size
    rw [G1_size] at hsz
    have hfr := hf0.below hnx (by omega)
    have hbw : Below w.heap.size w wr := (G1_below w).trans (hnx.mono (by omega))
    have hrr := hr.below hbw (Nat.le_refl _)
    by_cases hlt : k < ps.length
    · obtain ⟨b, rfl, hb, hc⟩ : ∃ b, p = some ⟨b, 0, none⟩ ∧ b < wr.heap.size ∧ ∀ k (h : k < ps.length) j, j < 7 → wr.cell? ⟨b, k * 7 + j, none⟩ = (lnCells ps[k].1 ps[k].2)[j]? := by
        rcases hrr.1 with h | h
        · rw [h] at hlt; simp at hlt
        · exact h
      obtain ⟨⟨l, u⟩, hq⟩ : ∃ q, ps[k] = q := ⟨_, rfl⟩
      have hmem : (l, u) ∈ ps := by rw [← hq]; exact List.getElem_mem _
      have c0 := hc k hlt 0 (by omega); have c1 := hc k hlt 1 (by omega); have c2 := hc k hlt 2 (by omega); have c3 := hc k hlt 3 (by omega); have c4 := hc k hlt 4 (by omega); have c5 := hc k hlt 5 (by omega); have c6 := hc k hlt 6 (by omega)
      rw [hq] at c0 c1 c2 c3 c4 c5 c6
      simp only [lnCells, List.getElem?_cons_zero, List.getElem?_cons_succ, Nat.add_zero] at c0 c1 c2 c3 c4 c5 c6
      have hrd := hrr.2 (l, u) hmem
      have hul := hu (l, u) hmem
      obtain ⟨_, up, uc, hue, _, _⟩ := hrd
      have hrd := hrr.2 (l, u) hmem
      simp only at hue hrd hul
      subst hue
      clear hc
      go_wp2_with fail
      obtain ⟨W1, hW1⟩ : ∃ W1, W1 = wr.alloc (Obj.cells #[Value.int IntKind.i64 l.no, Value.int IntKind.i64 l.kind, Value.string (S l.name), Value.slice up l.uses.length uc, Value.int IntKind.i64 l.num, Value.string (bs l.wd.fst), Value.string (bs l.wd.snd)] 85) := ⟨_, rfl⟩
      have hbW : Below wr.heap.size wr W1 := by rw [hW1]; exact (Below.refl _ _).alloc (Nat.le_refl _) _
      have hWs : W1.heap.size = wr.heap.size + 1 := by rw [hW1]; simp
      have hWl : LnB W1 wr.heap.size l (.slice up l.uses.length uc) := by unfold LnB; rw [hW1, heap_alloc_new]; rfl
      rw [← hW1]
      refine (owners_any ps (some ⟨b, 0, none⟩) cap l.uses _ W1 (by omega) (hrr.below hbW (Nat.le_refl _)) hul (hrd.below hbW (Nat.le_refl _))).mono ?_
      rintro e w2 ⟨hO, hb2⟩
      have hb2' : Below wr.heap.size wr w2 := hbW.trans (hb2.mono (by omega))
      have hz2' := hb2'.size
      have hl2 := hWl.below hb2 (by omega)
      have hf2 := hfr.below hb2' (by omega)
      obtain ⟨fc0, fc1, ff0, ff1⟩ := hf2.c
      have hlt2 : w.heap.size < w2.heap.size := by have := hb2.size; omega
      have hlt3 : wr.heap.size < w2.heap.size := by have := hb2.size; omega
      have hnew : w.heap.size ≠ wr.heap.size := by omega
      have hnew2 : wr.heap.size ≠ w.heap.size := by omega
      have hlk : (ps.map Prod.fst)[k]'(by rw [HML.out]; exact hlt) = l := by simp [hq]
      have HO : Hid (OwnersIs W1.heap.size (ownersL (ps.map Prod.fst) l.uses) e w2) := hO
      have b0 := hl2.c 0; have b1 := hl2.c 1; have b2 := hl2.c 2; have b3 := hl2.c 3; have b4 := hl2.c 4; have b5 := hl2.c 5; have b6 := hl2.c 6
      simp only [lnCells, List.getElem?_cons_zero, List.getElem?_cons_succ] at b0 b1 b2 b3 b4 b5 b6
      have g0 := hl2.fz 0; have g1 := hl2.fz 1; have g2 := hl2.fz 2; have g3 := hl2.fz 3; have g4 := hl2.fz 4; have g5 := hl2.fz 5; have g6 := hl2.fz 6
      clear hO hrd hW1 hWl hq hrr c0 c1 c2 c3 c4 c5 c6
      rcases HO.out with ⟨h1, rfl⟩ | ⟨P, v, h1, rfl, hown⟩
      · have HB := HL.out.bad (by rw [HML.out]; exact hlt) (by rw [hlk]; exact h1)
        rw [hlk] at HB
        have HB2 : Hid (linkL (ps.map Prod.fst) (ps.map Prod.fst) = .error (8, l.no)) := HB
        clear HO h1 HB hlk
        go_wp2
        go_region
        go_wp2
        have hset := hf2.set 8 l.no
        obtain ⟨q0, q1, _, _⟩ := FltB.c (w := ((w2.setCell ⟨w.heap.size, 0, none⟩ (.int .i64 8)).setCell ⟨w.heap.size, 1, none⟩ (.int .i64 l.no)).drew) hset
        refine bodyPost_ret (v := .tuple #[.slice none 0 0, .agg #[.int .i64 8, .int .i64 l.no]]) (by simp [results, Try.results42, go_sem, q0, q1]) rfl ⟨?_, ?_⟩
        · exact .inl ⟨(8, l.no), HB2.out, rfl⟩
        · exact (((hbw.trans (hb2'.mono (by omega))).setCell (Nat.le_refl _) _).setCell (Nat.le_refl _) _).drew
      · have HG := HL.out.good (by rw [HML.out]; exact hlt) (by rw [hlk]; exact h1)
        rw [hlk] at HG
        have HG2 : Hid (LinkAt (ps.map Prod.fst) (k + 1) (qs.map Prod.fst ++ [⟨l.no, l.kind, l.name, P, l.num, l.wd, ([], [])⟩])) := HG
        obtain ⟨vp, vn, vc, rfl⟩ := own_isSlice hown
        have hst2 := ownsRow_below hsteps.1 hb2'
        clear HO h1 HG hlk
        have hqs : qs.length ≤ 24 := by omega
        go_wp2_with (at_builtin; refine wpList_append_own _ rfl _ _ 64 rfl (w.heap.size + 1) 76 i0 (.agg #[.int .i64 0, .int .i64 0, .string ⟨#[]⟩, .slice none 0 0, .int .i64 0, .string ⟨#[]⟩, .string ⟨#[]⟩, .string ⟨#[]⟩, .string ⟨#[]⟩]) 9 128 Try.under64 hi hz0 hz1 hz2 rfl (by decide) _ _ _ rfl (hst2.alloc _) ⟨w2.heap.size, 0, none⟩ 1 1 [.int .i64 l.no, .int .i64 l.kind, .string (S l.name), .slice vp vn vc, .int .i64 l.num, .string (bs l.wd.1), .string (bs l.wd.2), .string ⟨#[]⟩, .string ⟨#[]⟩] rfl rfl (cells_new _ _ _ _ (by simp)) (by intro x hx; simp at hx; rcases hx with rfl | rfl | rfl | rfl | rfl | rfl | rfl | rfl <;> rfl) (by unfold maxLen; omega) (by omega) (by simp; omega) ?_; intro v' w' hown' hgrow _)
        have R2 := hsteps.app (l := ⟨l.no, l.kind, l.name, P, l.num, l.wd, ([], [])⟩) (by omega) hnx hb2' hown (by omega) hown' hgrow
        clear hown' hgrow hsteps hst2 hown
        go_wp2
        go_roundw
        case rel => exact ⟨k + 1, qs ++ [(⟨l.no, l.kind, l.name, P, l.num, l.wd, ([], [])⟩, .slice vp vn vc)], by go_num, by omega, by simp; omega, by rw [List.map_append]; exact HG2, R2.1, R2.2⟩
        case measure => simp [intOf]; omega
    · have HF := HL.out.fin (by rw [HML.out]; exact hlt)
      have HF2 : Hid (linkL (ps.map Prod.fst) (ps.map Prod.fst) = .ok (qs.map Prod.fst)) := HF
      obtain ⟨fc0, fc1, ff0, ff1⟩ := hfr.c
      have hltr : w.heap.size < wr.heap.size := by omega
      obtain ⟨vp, vn, vc, hve⟩ := own_isSlice hsteps.1
      subst hve
      clear HF hrr hr
      go_wp2
      obtain ⟨q0, q1, _, _⟩ := (hfr.set 0 0).c
      refine bodyPost_ret (v := .tuple #[.slice vp vn vc, .agg #[.int .i64 0, .int .i64 0]]) (by simp [results, Try.results42, go_sem, q0, q1]) rfl ⟨?_, ?_⟩
      · refine .inr ⟨qs, _, HF2.out, rfl, ?_, fun p hp => ?_⟩
        · exact own_mono (ownsRow_setCell_below (ownsRow_setCell_below hsteps.1 (by show w.heap.size < _; omega) _) (by show w.heap.size < _; omega) _) (by omega)
        · exact own_mono (ownsRow_setCell_below (ownsRow_setCell_below (hsteps.2 p hp) (by show w.heap.size < _; omega) _) (by show w.heap.size < _; omega) _) (by omega)
      · exact (hbw.setCell (Nat.le_refl _) _).setCell (Nat.le_refl _) _
end Go.Proofs.Ytfbkjopidjojeab
