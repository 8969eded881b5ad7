/-
  Walks over package plan: Make.
-/
import Derived.Test.YtfbkjopidjojeabDo
namespace Go.Proofs.Ytfbkjopidjojeab
open Go.RowKit

/-- What Make gives, by the model. -/
noncomputable def makeF (ls : List Ln) : Except Flt (List St) :=
  if (twF ls).1 = 0 then match linkL ls ls with
    | .error f => .error f
    | .ok qs => if (firstF 9 qs (hangB qs)).1 = 0 then match solveL (qs.length + 1) (qs.map give) with
        | .error f => .error f
        | .ok rs => if (firstF 10 rs (badFit rs)).1 = 0 then .ok rs else .error (firstF 10 rs (badFit rs))
      else .error (firstF 9 qs (hangB qs))
  else .error (twF ls)
def MakeIs (B : Nat) (o : Except Flt (List St)) (e : Ending) (w' : World) : Prop :=
  (∃ f : Flt, o = .error f ∧ e = .returned (.tuple #[.slice none 0 0, .agg #[.int .i64 f.1, .int .i64 f.2]])) ∨
  ∃ qs v, o = .ok (qs.map Prod.fst) ∧ e = .returned (.tuple #[v, .agg #[.int .i64 0, .int .i64 0]]) ∧ StepsAt w' B v qs

/-- What Make keeps. -/
def MK (w W : World) (fv : Nat) (x y : Int) : Prop := FltB W w.heap.size 0 0 ∧ FltB W fv x y ∧ Below w.heap.size w W ∧ w.heap.size < fv ∧ fv < W.heap.size
theorem MK.below {w W W' : World} {fv : Nat} {x y : Int} {B : Nat} (h : MK w W fv x y) (hb : Below B W W') (hB : fv < B) : MK w W' fv x y := by
  obtain ⟨h1, h2, h3, h4, h5⟩ := h
  exact ⟨h1.below hb (by omega), h2.below hb hB, h3.trans (hb.mono (by omega)), h4, Nat.lt_of_lt_of_le h5 hb.size⟩
theorem MK.new {w w1 : World} {x y : Int} (h1 : FltB w1 w.heap.size 0 0) (h3 : Below w.heap.size w w1) (hz : w.heap.size < w1.heap.size) : MK w (w1.alloc (Obj.cells #[.int .i64 x, .int .i64 y] 30)) w1.heap.size x y := by
  have hA : Below w1.heap.size w1 (w1.alloc (Obj.cells #[.int .i64 x, .int .i64 y] 30)) := (Below.refl _ _).alloc (Nat.le_refl _) _
  exact ⟨h1.below hA hz, by unfold FltB; rw [heap_alloc_new], h3.trans (hA.mono (by omega)), hz, by simp⟩
theorem MK.set {w W : World} {fv : Nat} {x y : Int} (h : MK w W fv x y) (x' y' : Int) : MK w ((W.setCell ⟨fv, 0, none⟩ (.int .i64 x')).setCell ⟨fv, 1, none⟩ (.int .i64 y')) fv x' y' := by
  obtain ⟨h1, h2, h3, h4, h5⟩ := h
  exact ⟨(h1.other (by omega) _).other (by omega) _, h2.set x' y', (h3.setCell (by show w.heap.size ≤ fv; omega) _).setCell (by show w.heap.size ≤ fv; omega) _, h4, by simp [World.setCell]; exact h5⟩
theorem StepsAt.keep {w : World} {B : Nat} {v : Value} {qs : List (St × Value)} (h : StepsAt w B v qs) {b : Nat} (hb : b < B) (x' y' : Value) : StepsAt ((w.setCell ⟨b, 0, none⟩ x').setCell ⟨b, 1, none⟩ y') B v qs :=
  ⟨ownsRow_setCell_below (ownsRow_setCell_below h.1 hb _) hb _, fun p hp => ownsRow_setCell_below (ownsRow_setCell_below (h.2 p hp) hb _) hb _⟩
theorem pass_err {n : Nat} : ∀ {qs : List St} {k : Nat} {m : Bool} {f : Flt}, pass n qs k m = .error f → f.1 = 2 := by
  induction n with
  | zero => intro qs k m f h; simp [pass] at h
  | succ n ih =>
    intro qs k m f h
    rw [pass] at h
    cases ht : tick qs k m with
    | error g =>
      rw [ht] at h
      cases h
      unfold tick at ht
      split at ht
      · cases ht
      · split at ht
        · cases ht
        · split at ht
          · cases ht; rfl
          · split at ht <;> cases ht
    | ok r => rw [ht] at h; exact ih h
theorem solve_err {n : Nat} : ∀ {qs : List St} {f : Flt}, solveL n qs = .error f → f.1 = 2 := by
  induction n with
  | zero => intro qs f h; simp [solveL] at h
  | succ n ih =>
    intro qs f h
    rw [solveL] at h
    cases hp : pass qs.length qs 0 false with
    | error g => rw [hp] at h; cases h; exact pass_err hp
    | ok r =>
      rw [hp] at h
      simp only at h
      split at h
      · exact ih h
      · cases h
theorem link_err {all : List Ln} : ∀ {ls : List Ln} {f : Flt}, linkL all ls = .error f → f.1 = 8 := by
  intro ls
  induction ls with
  | nil => intro f h; simp [linkL] at h
  | cons l ls ih =>
    intro f h
    rw [linkL] at h
    cases hs : stepL all l with
    | none => rw [hs] at h; cases h; rfl
    | some s =>
      rw [hs] at h
      simp only at h
      cases hl : linkL all ls with
      | error g => rw [hl] at h; cases h; exact ih hl
      | ok r => rw [hl] at h; cases h

theorem findClocks_both (qs : List (St × Value)) (O : List St) (vp : Option Addr) (vc B : Nat) (w : World) (hO : (qs.map Prod.fst).map give = O) (hl : qs.length ≤ 24) (hat : StepsAt w B (.slice vp qs.length vc) qs) (hB : B ≤ w.heap.size) (hwf : Wf (qs.map Prod.fst)) (hok : CkOk 64 (qs.map Prod.fst)) :
    Calls Try.prog 44 #[.slice vp qs.length vc] w fun e w' => FindIs B (.slice vp qs.length vc) (solveL (qs.length + 1) O) e w' ∧ Below B w w' := by
  by_cases h0 : qs.length = 0
  · have hq : qs = [] := List.length_eq_zero_iff.1 h0
    subst hq
    subst hO
    refine (findClocks_nil vp vc w).mono ?_
    rintro e w' ⟨h1, h2⟩
    exact ⟨.inr ⟨[], rfl, h1, hat.below h2, hok, hwf⟩, h2.mono hB⟩
  · obtain ⟨g, gc, hge⟩ := own_form hat.1 (by omega)
    injection hge with e1 e2 e3
    subst e1
    exact findClocks_any qs O B g vc qs.length w hO (by omega) hl rfl hat hB hwf hok

set_option maxRecDepth 50000 in
set_option maxHeartbeats 2000000 in
theorem Make_any (ps : List (Ln × Value)) (p : Option Addr) (cap : Nat) (w : World) (hl : ps.length ≤ 24) (hcap : ps.length ≤ cap) (hu : ∀ q ∈ ps, q.1.uses.length ≤ 1048575) (hr : RL w p ps)
    (hwf : ∀ qs, linkL (ps.map Prod.fst) (ps.map Prod.fst) = .ok qs → Wf qs ∧ CkOk 64 qs ∧ qs.length = ps.length) :
    Calls Try.prog 31 #[.slice p ps.length cap] w fun e w' => MakeIs w.heap.size (makeF (ps.map Prod.fst)) e w' ∧ Below w.heap.size w w' := by
  have hf0 := G1_f w
  have hg := G1_below w
  have hgz := G1_size w
  have hc1 := findTwice_any ps p cap (G1 w) (by omega) hcap (hr.below hg (Nat.le_refl _))
  obtain ⟨ls, hls⟩ : ∃ ls, ps.map Prod.fst = ls := ⟨_, rfl⟩
  have hlk := fun (W : World) (h : Below w.heap.size w W) => link_any ps p cap W hl (fun q hq => by have := hu q hq; omega) (hr.below h (Nat.le_refl _))
  rw [hls] at hc1 hlk hwf ⊢
  have HM : Hid (makeF ls = makeF ls) := rfl
  clear hr hls hu
  obtain ⟨f1, hf1⟩ : ∃ f, twF ls = f := ⟨_, rfl⟩
  rw [hf1] at hc1
  have HF1 : Hid (twF ls = f1) := hf1
  clear hf1
  go_enter Try.func31, Try.ntmps31
  go_wp2_with fail
  refine hc1.mono ?_
  rintro e w1 ⟨hK, hb1⟩
  unfold FltIs at hK
  subst hK
  have hz1 := hb1.size
  rw [hgz] at hz1
  have hm := MK.new (x := f1.1) (y := f1.2) (hf0.below hb1 (by rw [hgz]; omega)) (hg.trans (hb1.mono (by rw [hgz]; omega))) (by omega)
  obtain ⟨W1, hW1⟩ : ∃ W1, W1 = w1.alloc (Obj.cells #[.int .i64 f1.1, .int .i64 f1.2] 30) := ⟨_, rfl⟩
  clear hc1
  by_cases h1 : f1.1 = 0
  case neg =>
    have hE : makeF ls = .error f1 := by unfold makeF; rw [HF1.out, if_neg h1]
    have HE : Hid (makeF ls = .error f1) := hE
    have hn1 : ¬ (f1.1 : Int) = 0 := by omega
    have hfw1 := hf0.below hb1 (by rw [hgz]; omega)
    obtain ⟨c0, c1, g0, g1⟩ := hfw1.c
    have hltw : w.heap.size < w1.heap.size := by omega
    clear hE h1
    go_wp2
    go_region
    go_wp2
    have hq := (hfw1.set f1.1 f1.2).below ((Below.refl _ _).alloc (Nat.le_refl _) (Obj.cells #[Value.int IntKind.i64 f1.1, Value.int IntKind.i64 f1.2] 30)) (by simpa [World.setCell] using hltw)
    obtain ⟨q0, q1, _, _⟩ := FltB.c (w := (((w1.setCell ⟨w.heap.size, 0, none⟩ (.int .i64 f1.1)).setCell ⟨w.heap.size, 1, none⟩ (.int .i64 f1.2)).alloc (Obj.cells #[Value.int IntKind.i64 f1.1, Value.int IntKind.i64 f1.2] 30)).drew) hq
    refine bodyPost_ret (v := .tuple #[.slice none 0 0, .agg #[.int .i64 f1.1, .int .i64 f1.2]]) (by simp [results, Try.results31, go_sem, q0, q1]) rfl ⟨?_, ?_⟩
    · exact .inl ⟨f1, HE.out, rfl⟩
    · exact ((((hg.trans (hb1.mono (by rw [hgz]; omega))).setCell (Nat.le_refl _) _).setCell (Nat.le_refl _) _).alloc (by simp [World.setCell]; omega) _).drew
  have HE0 : Hid (makeF ls = match linkL ls ls with
    | .error f => .error f
    | .ok qs => if (firstF 9 qs (hangB qs)).1 = 0 then match solveL (qs.length + 1) (qs.map give) with
        | .error f => .error f
        | .ok rs => if (firstF 10 rs (badFit rs)).1 = 0 then .ok rs else .error (firstF 10 rs (badFit rs))
      else .error (firstF 9 qs (hangB qs))) := by show makeF ls = _; unfold makeF; rw [HF1.out, if_pos h1]
  have hn1 : (f1.1 : Int) = 0 := by omega
  have hMW : MK w W1 w1.heap.size f1.1 f1.2 := by rw [hW1]; exact hm
  have HMW : Hid (MK w W1 w1.heap.size f1.1 f1.2) := hMW
  have hbW1 := hMW.2.2.1
  clear hm hMW
  go_wp2_with fail
  rw [← hn1, ← hW1]
  refine (hlk W1 hbW1).mono ?_
  rintro e w2 ⟨hL, hb2⟩
  have hM2 := HMW.out.below hb2 HMW.out.2.2.2.2
  have HL : Hid (LinkIs W1.heap.size (linkL ls ls) e w2) := hL
  clear hL hW1 hn1
  obtain ⟨fv, hfv⟩ : ∃ fv, fv = w1.heap.size := ⟨_, rfl⟩
  rw [← hfv] at hM2 HMW ⊢
  clear hfv
  rcases HL.out with ⟨f, hf, rfl⟩ | ⟨qs, v, hq, rfl, hst⟩
  · have he := link_err hf
    have HFf : Hid (linkL ls ls = .error f) := hf
    clear hf HL
    have hnz : ¬ ((f).1 : Int) = 0 := by rw [he]; decide
    clear he
    have HS : Hid (makeF ls = .error f) := (by show makeF ls = _; rw [HE0.out, HFf.out])
    obtain ⟨fr, ff, hbel, hl1, hl2⟩ := hM2
    obtain ⟨c0, c1, g0, g1⟩ := fr.c
    obtain ⟨d0, d1, k0, k1⟩ := ff.c
    have hne : fv ≠ w.heap.size := by omega
    have hne2 : w.heap.size ≠ fv := by omega
    go_wp2
    go_region
    go_wp2
    have hm2 := (MK.set ⟨fr, ff, hbel, hl1, hl2⟩ (f).1 (f).2)
    have hq := hm2.1.set (f).1 (f).2
    obtain ⟨q0, q1, _, _⟩ := FltB.c (w := ((((w2.setCell ⟨fv, 0, none⟩ (.int .i64 (f).1)).setCell ⟨fv, 1, none⟩ (.int .i64 (f).2)).setCell ⟨w.heap.size, 0, none⟩ (.int .i64 (f).1)).setCell ⟨w.heap.size, 1, none⟩ (.int .i64 (f).2)).drew) hq
    refine bodyPost_ret (v := .tuple #[.slice none 0 0, .agg #[.int .i64 (f).1, .int .i64 (f).2]]) (by simp [results, Try.results31, go_sem, q0, q1]) rfl ⟨?_, ?_⟩
    · exact .inl ⟨f, HS.out, rfl⟩
    · exact ((hm2.2.2.1.setCell (Nat.le_refl _) _).setCell (Nat.le_refl _) _).drew
  obtain ⟨hwf1, hok1, hlen1⟩ := hwf _ hq
  have HQ : Hid (linkL ls ls = .ok (qs.map Prod.fst)) := hq
  obtain ⟨vp, vc, hve, hvc, hrs⟩ := hst.rs
  subst hve
  have hB1 := HMW.out.2.2.2.2
  have hm3 := hM2.set 0 0
  have hst3 := hst.keep hB1 (.int .i64 0) (.int .i64 0)
  have hz2 := hb2.size
  have hl24 : qs.length ≤ 24 := by rw [List.length_map] at hlen1; omega
  have hBw := HMW.out.2.2.2.1
  obtain ⟨X3, hX3⟩ : ∃ X3, X3 = (w2.setCell ⟨fv, 0, none⟩ (.int .i64 0)).setCell ⟨fv, 1, none⟩ (.int .i64 0) := ⟨_, rfl⟩
  rw [← hX3] at hm3 hst3
  have hX3s : X3.heap.size = w2.heap.size := by rw [hX3]; simp [World.setCell]
  obtain ⟨d0, d1, k0, k1⟩ := hM2.2.1.c
  clear HL hq hst hrs hwf hlen1
  go_wp2_with fail
  rw [← hX3]
  clear hX3 d0 d1 k0 k1
  obtain ⟨rp, rc, hre, hrc, hrs3⟩ := hst3.rs
  injection hre with hre1 hre2 hre3
  subst hre1
  subst hre3
  refine (findCause_any qs vp vc X3 hl24 hrs3 hwf1).mono ?_
  rintro e w4 ⟨hK, hb4⟩
  unfold FltIs at hK
  subst hK
  have hm4 := hm3.below hb4 hm3.2.2.2.2
  have hst4 := hst3.below hb4
  obtain ⟨f4, hf4⟩ : ∃ f, firstF 9 (qs.map Prod.fst) (hangB (qs.map Prod.fst)) = f := ⟨_, rfl⟩
  rw [hf4]
  have HF4 : Hid (firstF 9 (qs.map Prod.fst) (hangB (qs.map Prod.fst)) = f4) := hf4
  clear hf4 hrs3
  by_cases h4 : f4.1 = 0
  case neg =>
    have hnz : ¬ ((f4).1 : Int) = 0 := by omega
    have HS : Hid (makeF ls = .error f4) := (by show makeF ls = _; rw [HE0.out, HQ.out]; simp only; rw [HF4.out, if_neg h4])
    obtain ⟨fr, ff, hbel, hl1, hl2⟩ := hm4
    obtain ⟨c0, c1, g0, g1⟩ := fr.c
    obtain ⟨d0, d1, k0, k1⟩ := ff.c
    have hne : fv ≠ w.heap.size := by omega
    have hne2 : w.heap.size ≠ fv := by omega
    go_wp2
    go_region
    go_wp2
    have hm2 := (MK.set ⟨fr, ff, hbel, hl1, hl2⟩ (f4).1 (f4).2)
    have hq := hm2.1.set (f4).1 (f4).2
    obtain ⟨q0, q1, _, _⟩ := FltB.c (w := ((((w4.setCell ⟨fv, 0, none⟩ (.int .i64 (f4).1)).setCell ⟨fv, 1, none⟩ (.int .i64 (f4).2)).setCell ⟨w.heap.size, 0, none⟩ (.int .i64 (f4).1)).setCell ⟨w.heap.size, 1, none⟩ (.int .i64 (f4).2)).drew) hq
    refine bodyPost_ret (v := .tuple #[.slice none 0 0, .agg #[.int .i64 (f4).1, .int .i64 (f4).2]]) (by simp [results, Try.results31, go_sem, q0, q1]) rfl ⟨?_, ?_⟩
    · exact .inl ⟨f4, HS.out, rfl⟩
    · exact ((hm2.2.2.1.setCell (Nat.le_refl _) _).setCell (Nat.le_refl _) _).drew
  have hz4 := hb4.size
  have hm5 := hm4.set 0 0
  have hst5 := hst4.keep hB1 (.int .i64 0) (.int .i64 0)
  have HE1 : Hid (makeF ls = match solveL (qs.length + 1) ((qs.map Prod.fst).map give) with
        | .error f => .error f
        | .ok rs => if (firstF 10 rs (badFit rs)).1 = 0 then .ok rs else .error (firstF 10 rs (badFit rs))) := by
    show makeF ls = _
    rw [HE0.out, HQ.out]; simp only; rw [HF4.out, if_pos h4, List.length_map]
  have hf40 : f4 = (0, 0) := by
    have := HF4.out
    unfold firstF at this
    split at this
    · exact this.symm
    · rw [← this] at h4; simp at h4
  subst hf40
  obtain ⟨X5, hX5⟩ : ∃ X5, X5 = (w4.setCell ⟨fv, 0, none⟩ (.int .i64 0)).setCell ⟨fv, 1, none⟩ (.int .i64 0) := ⟨_, rfl⟩
  rw [← hX5] at hm5 hst5
  have hX5s : X5.heap.size = w4.heap.size := by rw [hX5]; simp [World.setCell]
  obtain ⟨d0, d1, k0, k1⟩ := hm4.2.1.c
  obtain ⟨O, hO⟩ : ∃ O, (qs.map Prod.fst).map give = O := ⟨_, rfl⟩
  have hfc := findClocks_both qs O vp vc W1.heap.size X5 hO hl24 hst5 (by omega) hwf1 hok1
  have HO : Hid ((qs.map Prod.fst).map give = O) := hO
  clear hO h4
  go_wp2_with fail
  rw [← hX5]
  clear hX5 d0 d1 k0 k1
  refine hfc.mono ?_
  rintro e w6 ⟨hF, hb6⟩
  have hm6 := hm5.below hb6 hB1
  have HFd : Hid (FindIs W1.heap.size (.slice vp qs.length vc) (solveL (qs.length + 1) O) e w6) := hF
  have hz6 := hb6.size
  clear hF hfc
  rcases HFd.out with ⟨f, hf, hK⟩ | ⟨rs, hf, hK, hst6, hok6, hwf6⟩
  · unfold FltIs at hK
    subst hK
    have he := solve_err hf
    have HFf : Hid (solveL (qs.length + 1) O = .error f) := hf
    clear hf HFd
    have hnz : ¬ ((f).1 : Int) = 0 := by rw [he]; decide
    clear he
    have HS : Hid (makeF ls = .error f) := (by show makeF ls = _; rw [HE1.out, HO.out, HFf.out])
    obtain ⟨fr, ff, hbel, hl1, hl2⟩ := hm6
    obtain ⟨c0, c1, g0, g1⟩ := fr.c
    obtain ⟨d0, d1, k0, k1⟩ := ff.c
    have hne : fv ≠ w.heap.size := by omega
    have hne2 : w.heap.size ≠ fv := by omega
    go_wp2
    go_region
    go_wp2
    have hm2 := (MK.set ⟨fr, ff, hbel, hl1, hl2⟩ (f).1 (f).2)
    have hq := hm2.1.set (f).1 (f).2
    obtain ⟨q0, q1, _, _⟩ := FltB.c (w := ((((w6.setCell ⟨fv, 0, none⟩ (.int .i64 (f).1)).setCell ⟨fv, 1, none⟩ (.int .i64 (f).2)).setCell ⟨w.heap.size, 0, none⟩ (.int .i64 (f).1)).setCell ⟨w.heap.size, 1, none⟩ (.int .i64 (f).2)).drew) hq
    refine bodyPost_ret (v := .tuple #[.slice none 0 0, .agg #[.int .i64 (f).1, .int .i64 (f).2]]) (by simp [results, Try.results31, go_sem, q0, q1]) rfl ⟨?_, ?_⟩
    · exact .inl ⟨f, HS.out, rfl⟩
    · exact ((hm2.2.2.1.setCell (Nat.le_refl _) _).setCell (Nat.le_refl _) _).drew
  unfold FltIs at hK
  subst hK
  have HRs : Hid (solveL (qs.length + 1) O = .ok (rs.map Prod.fst)) := hf
  clear hf HFd
  have hlr : rs.length = qs.length := by
    rcases hst6.1.2 with ⟨e1, e2⟩ | ⟨g, c, cur, e1, _⟩
    · injection e1 with _ e3 _; omega
    · injection e1 with _ e3 _; exact e3.symm
  obtain ⟨n, hn⟩ : ∃ n, n = qs.length := ⟨_, rfl⟩
  rw [← hn] at hlr hl24 hst6 HRs HE1 ⊢
  have HLR : Hid (rs.length = n) := hlr
  have hm7 := hm6.set 0 0
  have hst7 := hst6.keep hB1 (.int .i64 0) (.int .i64 0)
  obtain ⟨X7, hX7⟩ : ∃ X7, X7 = (w6.setCell ⟨fv, 0, none⟩ (.int .i64 0)).setCell ⟨fv, 1, none⟩ (.int .i64 0) := ⟨_, rfl⟩
  rw [← hX7] at hm7 hst7
  obtain ⟨d0, d1, k0, k1⟩ := hm6.2.1.c
  obtain ⟨rp, rc, hre, hrc, hrs7⟩ := hst7.rs
  injection hre with hre1 hre2 hre3
  subst hre1
  subst hre3
  have hfu := findUnfit_any rs vp vc X7 (by omega) hrs7 hwf6 hok6
  rw [HLR.out] at hfu
  clear hlr hn hrs7 hre2
  go_wp2_with fail
  rw [← hX7]
  clear hX7 d0 d1 k0 k1
  refine hfu.mono ?_
  rintro e w8 ⟨hK, hb8⟩
  unfold FltIs at hK
  subst hK
  have hm8 := hm7.below hb8 hm7.2.2.2.2
  have hst8 := hst7.below hb8
  obtain ⟨f8, hf8⟩ : ∃ f, firstF 10 (rs.map Prod.fst) (badFit (rs.map Prod.fst)) = f := ⟨_, rfl⟩
  rw [hf8]
  have HF8 : Hid (firstF 10 (rs.map Prod.fst) (badFit (rs.map Prod.fst)) = f8) := hf8
  clear hf8 hfu
  by_cases h8 : f8.1 = 0
  case neg =>
    have hnz : ¬ ((f8).1 : Int) = 0 := by omega
    have HS : Hid (makeF ls = .error f8) := (by show makeF ls = _; rw [HE1.out, HO.out, HRs.out]; simp only; rw [HF8.out, if_neg h8])
    obtain ⟨fr, ff, hbel, hl1, hl2⟩ := hm8
    obtain ⟨c0, c1, g0, g1⟩ := fr.c
    obtain ⟨d0, d1, k0, k1⟩ := ff.c
    have hne : fv ≠ w.heap.size := by omega
    have hne2 : w.heap.size ≠ fv := by omega
    go_wp2
    go_region
    go_wp2
    have hm2 := (MK.set ⟨fr, ff, hbel, hl1, hl2⟩ (f8).1 (f8).2)
    have hq := hm2.1.set (f8).1 (f8).2
    obtain ⟨q0, q1, _, _⟩ := FltB.c (w := ((((w8.setCell ⟨fv, 0, none⟩ (.int .i64 (f8).1)).setCell ⟨fv, 1, none⟩ (.int .i64 (f8).2)).setCell ⟨w.heap.size, 0, none⟩ (.int .i64 (f8).1)).setCell ⟨w.heap.size, 1, none⟩ (.int .i64 (f8).2)).drew) hq
    refine bodyPost_ret (v := .tuple #[.slice none 0 0, .agg #[.int .i64 (f8).1, .int .i64 (f8).2]]) (by simp [results, Try.results31, go_sem, q0, q1]) rfl ⟨?_, ?_⟩
    · exact .inl ⟨f8, HS.out, rfl⟩
    · exact ((hm2.2.2.1.setCell (Nat.le_refl _) _).setCell (Nat.le_refl _) _).drew
  have HS : Hid (makeF ls = .ok (rs.map Prod.fst)) := by
    show makeF ls = _
    rw [HE1.out, HO.out, HRs.out]; simp only; rw [HF8.out, if_pos h8]
  have hf80 : f8 = (0, 0) := by
    have := HF8.out
    unfold firstF at this
    split at this
    · exact this.symm
    · rw [← this] at h8; simp at h8
  subst hf80
  obtain ⟨fr, ff, hbel, hl1, hl2⟩ := hm8
  obtain ⟨c0, c1, g0, g1⟩ := fr.c
  obtain ⟨d0, d1, k0, k1⟩ := ff.c
  have hne : fv ≠ w.heap.size := by omega
  have hne2 : w.heap.size ≠ fv := by omega
  have hm9 := (MK.set ⟨fr, ff, hbel, hl1, hl2⟩ 0 0)
  have hst9 := hst8.keep hB1 (.int .i64 0) (.int .i64 0)
  have hst10 := hst9.keep (b := w.heap.size) (by omega) (.int .i64 0) (.int .i64 0)
  clear h8
  go_wp2
  obtain ⟨q0, q1, _, _⟩ := (hm9.1.set 0 0).c
  refine bodyPost_ret (v := .tuple #[.slice vp n vc, .agg #[.int .i64 0, .int .i64 0]]) (by simp [results, Try.results31, go_sem, q0, q1]) rfl ⟨?_, ?_⟩
  · refine .inr ⟨rs, _, HS.out, rfl, own_mono hst10.1 (by omega), fun p hp => own_mono (hst10.2 p hp) (by omega)⟩
  · exact (hm9.2.2.1.setCell (Nat.le_refl _) _).setCell (Nat.le_refl _) _
end Go.Proofs.Ytfbkjopidjojeab
